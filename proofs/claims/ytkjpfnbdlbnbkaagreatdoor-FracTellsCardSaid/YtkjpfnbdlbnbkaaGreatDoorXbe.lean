/- Walks: Add and Sub of fractions, where there is room. Printed by a program. Plain: how long fractions become; their order and their integral parts. No program. Walks: Add and Sub of fractions, where there is no room, and any right ones. Printed by a program (fcomb2.py). -/
import Derived.Test.YtkjpfnbdlbnbkaaGreatDoorXba
import Derived.Test.YtkjpfnbdlbnbkaaGreatDoorXam
import Derived.Test.YtkjpfnbdlbnbkaaGreatDoorXay

namespace Go.Proofs.YtkjpfnbdlbnbkaaGreatDoor
open Go.RowKit

theorem max4 (P : Program) (W : World) (ts : Array TypeId) (t : TypeId) : (Builtin.max_ ts t #[.int .i64 0, .int .i64 0, .int .i64 0, .int .i64 0]).run P W = .ok (.int .i64 0) W := by
  simp [Builtin.max_, Builtin.max2]

set_option maxRecDepth 100000 in
set_option maxHeartbeats 8000000 in
theorem combine_add (s1 s2 s3 s4 : Int) (A1 A2 A3 A4 : Option Addr) (n1 d1 n2 d2 n3 d3 n4 d4 : Nat) (p1 q1 p2 q2 : Int) (w : World) (ha : FV w w.heap.size s1 A1 n1 d1 s2 A2 n2 d2 p1 q1) (hb : FV w w.heap.size s3 A3 n3 d3 s4 A4 n4 d4 p2 q2) (h1 : ab p1 < pw 60) (h2 : ab q1 < pw 60) (h3 : ab p2 < pw 60) (h4 : ab q2 < pw 60) (f1 : FR p1 q1) (f2 : FR p2 q2) (c1 : ab (p1 * q2) < pw 60) (c2 : ab (p2 * q1) < pw 60) (c3 : ab (p1 * q2 + p2 * q1) < pw 60) (c4 : ab (q1 * q2) < pw 60) :
    Calls Tryz.prog 92 #[.agg #[.int .i64 s1, .slice A1 n1 d1, .int .i64 s2, .slice A2 n2 d2], .agg #[.int .i64 s3, .slice A3 n3 d3, .int .i64 s4, .slice A4 n4 d4], .func (.func 7) #[] #[]] w (NewP (p1 * q2 + p2 * q1) (q1 * q2) w) := by
  have H1 := Lib.hid h1; clear h1
  have H2 := Lib.hid h2; clear h2
  have H3 := Lib.hid h3; clear h3
  have H4 := Lib.hid h4; clear h4
  have F1 := Lib.hid f1; clear f1
  have F2 := Lib.hid f2; clear f2
  have HKm := Lib.hid c1; clear c1
  have HKn := Lib.hid c2; clear c2
  have HKs := Lib.hid c3; clear c3
  have HKt := Lib.hid c4; clear c4
  have HFm := Lib.hid (fits HKm.out)
  have HFn := Lib.hid (fits HKn.out)
  have HFs := Lib.hid (fits HKs.out)
  have HFt := Lib.hid (fits HKt.out)
  unfold NewP
  obtain ⟨E, hE⟩ : ∃ E, newE (q1 * q2) = E := ⟨_, rfl⟩
  obtain ⟨P, hP⟩ : ∃ E, newN (p1 * q2 + p2 * q1) (q1 * q2) = E := ⟨_, rfl⟩
  obtain ⟨Q, hQ⟩ : ∃ E, newD (p1 * q2 + p2 * q1) (q1 * q2) = E := ⟨_, rfl⟩
  rw [hE, hP, hQ]
  have HE := Lib.hid hE; clear hE
  have HP := Lib.hid hP; clear hP
  have HQ := Lib.hid hQ; clear hQ
  go_enter Tryz.func92, Tryz.ntmps92
  go_wp2_with fail
  obtain ⟨W0, hW, hbx, ka, kb, kR⟩ := fboxes2 ha hb
  rw [← hW]
  clear hW ha hb
  have hT := hbx
  have za0 := ka.c0
  have za1 := ka.c1
  have za2 := ka.c2
  have za3 := ka.c3
  go_wp2_with fail
  clear za0 za1 za2 za3
  (with_reducible refine (fright_pos _ ka.fv H1.out H2.out (FR.pos F1.out) true (decide_eq_true (FR.one F1.out))).mono ?_)
  rintro e u1 ⟨rfl, hb9⟩
  have hT := hT.trans (hb9.mono hT.size)
  have ka := ka.below hb9
  have kb := kb.below hb9
  have kR := kR.below hb9
  have zb0 := kb.c0
  have zb1 := kb.c1
  have zb2 := kb.c2
  have zb3 := kb.c3
  go_wp2_with fail
  clear zb0 zb1 zb2 zb3
  (with_reducible refine (fright_pos _ kb.fv H3.out H4.out (FR.pos F2.out) true (decide_eq_true (FR.one F2.out))).mono ?_)
  rintro e u2 ⟨rfl, hb9⟩
  have hT := hT.trans (hb9.mono hT.size)
  have ka := ka.below hb9
  have kb := kb.below hb9
  have kR := kR.below hb9
  have za0 := ka.c0
  have za1 := ka.c1
  have zb2 := kb.c2
  have zb3 := kb.c3
  go_wp2_with fail
  clear za0 za1
  clear zb2 zb3
  (with_reducible refine (mul_any _ _ _ _ _ ka.fv.a kb.fv.b H1.out H4.out).mono ?_)
  rintro e u3 ⟨rm, rfl, hrm, hb9⟩
  have hT := hT.trans (hb9.mono hT.size)
  have ka := ka.below hb9
  have kb := kb.below hb9
  have kR := kR.below hb9
  rw [HFm.out.1]
  rw [HFm.out.2] at hrm
  obtain ⟨sm, Am, nm, cm, rfl⟩ := hrm.form
  have kby := kb.below ((Below.refl _ u3).alloc (Nat.le_refl _) (.cells #[.int .i64 sm, .slice Am nm cm] 24))
  have zb0y := kby.c0
  have zb1y := kby.c1
  have kay := ka.below ((Below.refl _ u3).alloc (Nat.le_refl _) (.cells #[.int .i64 sm, .slice Am nm cm] 24))
  have za2y := kay.c2
  have za3y := kay.c3
  go_wp2_with fail
  clear zb0y zb1y
  clear kby
  clear za2y za3y
  clear kay
  obtain ⟨Wm, hW, hbx, km⟩ := box1 hrm
  rw [← hW]
  clear hW
  have hT := hT.trans (hbx.mono hT.size)
  have ka := ka.below hbx
  have kb := kb.below hbx
  have kR := kR.below hbx
  (with_reducible refine (mul_any _ _ _ _ _ kb.fv.a ka.fv.b H3.out H2.out).mono ?_)
  rintro e u4 ⟨rn, rfl, hrn, hb9⟩
  have hT := hT.trans (hb9.mono hT.size)
  have ka := ka.below hb9
  have kb := kb.below hb9
  have kR := kR.below hb9
  have km := km.below hb9
  rw [HFn.out.1]
  rw [HFn.out.2] at hrn
  obtain ⟨sn, An, nn, cn, rfl⟩ := hrn.form
  have kmy := km.below ((Below.refl _ u4).alloc (Nat.le_refl _) (.cells #[.int .i64 sn, .slice An nn cn] 24))
  have zm0y := kmy.c0
  have zm1y := kmy.c1
  go_wp2_with fail
  clear zm0y zm1y
  clear kmy
  obtain ⟨Wn, hW, hbx, kn⟩ := box1 hrn
  rw [← hW]
  clear hW
  have hT := hT.trans (hbx.mono hT.size)
  have ka := ka.below hbx
  have kb := kb.below hbx
  have kR := kR.below hbx
  have km := km.below hbx
  (with_reducible refine (add_any _ _ _ _ _ km.bv kn.bv HKm.out HKn.out).mono ?_)
  rintro e u5 ⟨rs, rfl, hrs, hb9⟩
  have hT := hT.trans (hb9.mono hT.size)
  have ka := ka.below hb9
  have kb := kb.below hb9
  have kR := kR.below hb9
  have km := km.below hb9
  have kn := kn.below hb9
  rw [HFs.out.1]
  rw [HFs.out.2] at hrs
  obtain ⟨ss, As, ns, cs, rfl⟩ := hrs.form
  have kay := ka.below ((Below.refl _ u5).alloc (Nat.le_refl _) (.cells #[.int .i64 ss, .slice As ns cs] 24))
  have za2y := kay.c2
  have za3y := kay.c3
  have kby := kb.below ((Below.refl _ u5).alloc (Nat.le_refl _) (.cells #[.int .i64 ss, .slice As ns cs] 24))
  have zb2y := kby.c2
  have zb3y := kby.c3
  go_wp2_with fail
  clear za2y za3y
  clear kay
  clear zb2y zb3y
  clear kby
  obtain ⟨Ws, hW, hbx, ks⟩ := box1 hrs
  rw [← hW]
  clear hW
  have hT := hT.trans (hbx.mono hT.size)
  have ka := ka.below hbx
  have kb := kb.below hbx
  have kR := kR.below hbx
  have km := km.below hbx
  have kn := kn.below hbx
  (with_reducible refine (mul_any _ _ _ _ _ ka.fv.b kb.fv.b H2.out H4.out).mono ?_)
  rintro e u6 ⟨rt, rfl, hrt, hb9⟩
  have hT := hT.trans (hb9.mono hT.size)
  have ka := ka.below hb9
  have kb := kb.below hb9
  have kR := kR.below hb9
  have km := km.below hb9
  have kn := kn.below hb9
  have ks := ks.below hb9
  rw [HFt.out.1]
  rw [HFt.out.2] at hrt
  obtain ⟨st, At, nt, ct, rfl⟩ := hrt.form
  have hmx := fun (W : World) (ts : Array TypeId) (t : TypeId) => max4 Tryz.prog W ts t
  have ksy := ks.below ((Below.refl _ u6).alloc (Nat.le_refl _) (.cells #[.int .i64 st, .slice At nt ct] 24))
  have zs0y := ksy.c0
  have zs1y := ksy.c1
  go_wp2_with fail
  clear zs0y zs1y
  clear ksy
  obtain ⟨Wt, hW, hbx, kt⟩ := box1 hrt
  rw [← hW]
  clear hW
  have hT := hT.trans (hbx.mono hT.size)
  have ka := ka.below hbx
  have kb := kb.below hbx
  have kR := kR.below hbx
  have km := km.below hbx
  have kn := kn.below hbx
  have ks := ks.below hbx
  have hlt := kR.blk.lt
  (with_reducible refine (new_any _ _ _ _ _ _ _ _ _ _ _ ks.bv kt.bv HKs.out HKt.out).mono ?_)
  rintro e u7 ⟨rr, rfl, hrr, hb9⟩
  have hT := hT.trans (hb9.mono hT.size)
  have kR := kR.below hb9
  clear ka kb km kn ks kt
  rw [HP.out, HQ.out] at hrr
  rw [HE.out]
  obtain ⟨t1, C1, m1, e1, t2, C2, m2, e2, rfl, g1, g2⟩ := hrr
  have gR : w.heap.size ≤ w.heap.size + 1 + 1 := by omega
  have r0 := kR.blk.cell 0
  have r1 := kR.blk.cell 1
  have r2 := kR.blk.cell 2
  have r3 := kR.blk.cell 3
  have q0' := kR.blk.frozen 0
  have q1' := kR.blk.frozen 1
  have q2' := kR.blk.frozen 2
  have q3' := kR.blk.frozen 3
  simp at r0 r1 r2 r3
  have hbs := kR.blk.set4 (.int .i64 t1) (.slice C1 m1 e1) (.int .i64 t2) (.slice C2 m2 e2)
  have x0 := hbs.cell 0
  have x1 := hbs.cell 1
  have x2 := hbs.cell 2
  have x3 := hbs.cell 3
  simp at x0 x1 x2 x3
  go_wp2_with fail
  refine bodyPost_ret (v := .tuple #[.agg #[.int .i64 t1, .slice C1 m1 e1, .int .i64 t2, .slice C2 m2 e2], .int .i64 E]) (by simp [results, Tryz.results92, go_sem, x0, x1, x2, x3]) rfl ?_
  exact ⟨_, rfl, FO.mk2 ((g1.far4 hlt _ _ _ _).mono (by omega)) ((g2.far4 hlt _ _ _ _).mono (by omega)), below_st4 hT gR _ _ _ _⟩

set_option maxRecDepth 100000 in
set_option maxHeartbeats 8000000 in
theorem combine_sub (s1 s2 s3 s4 : Int) (A1 A2 A3 A4 : Option Addr) (n1 d1 n2 d2 n3 d3 n4 d4 : Nat) (p1 q1 p2 q2 : Int) (w : World) (ha : FV w w.heap.size s1 A1 n1 d1 s2 A2 n2 d2 p1 q1) (hb : FV w w.heap.size s3 A3 n3 d3 s4 A4 n4 d4 p2 q2) (h1 : ab p1 < pw 60) (h2 : ab q1 < pw 60) (h3 : ab p2 < pw 60) (h4 : ab q2 < pw 60) (f1 : FR p1 q1) (f2 : FR p2 q2) (c1 : ab (p1 * q2) < pw 60) (c2 : ab (p2 * q1) < pw 60) (c3 : ab (p1 * q2 - p2 * q1) < pw 60) (c4 : ab (q1 * q2) < pw 60) :
    Calls Tryz.prog 92 #[.agg #[.int .i64 s1, .slice A1 n1 d1, .int .i64 s2, .slice A2 n2 d2], .agg #[.int .i64 s3, .slice A3 n3 d3, .int .i64 s4, .slice A4 n4 d4], .func (.func 9) #[] #[]] w (NewP (p1 * q2 - p2 * q1) (q1 * q2) w) := by
  have H1 := Lib.hid h1; clear h1
  have H2 := Lib.hid h2; clear h2
  have H3 := Lib.hid h3; clear h3
  have H4 := Lib.hid h4; clear h4
  have F1 := Lib.hid f1; clear f1
  have F2 := Lib.hid f2; clear f2
  have HKm := Lib.hid c1; clear c1
  have HKn := Lib.hid c2; clear c2
  have HKs := Lib.hid c3; clear c3
  have HKt := Lib.hid c4; clear c4
  have HFm := Lib.hid (fits HKm.out)
  have HFn := Lib.hid (fits HKn.out)
  have HFs := Lib.hid (fits HKs.out)
  have HFt := Lib.hid (fits HKt.out)
  unfold NewP
  obtain ⟨E, hE⟩ : ∃ E, newE (q1 * q2) = E := ⟨_, rfl⟩
  obtain ⟨P, hP⟩ : ∃ E, newN (p1 * q2 - p2 * q1) (q1 * q2) = E := ⟨_, rfl⟩
  obtain ⟨Q, hQ⟩ : ∃ E, newD (p1 * q2 - p2 * q1) (q1 * q2) = E := ⟨_, rfl⟩
  rw [hE, hP, hQ]
  have HE := Lib.hid hE; clear hE
  have HP := Lib.hid hP; clear hP
  have HQ := Lib.hid hQ; clear hQ
  go_enter Tryz.func92, Tryz.ntmps92
  go_wp2_with fail
  obtain ⟨W0, hW, hbx, ka, kb, kR⟩ := fboxes2 ha hb
  rw [← hW]
  clear hW ha hb
  have hT := hbx
  have za0 := ka.c0
  have za1 := ka.c1
  have za2 := ka.c2
  have za3 := ka.c3
  go_wp2_with fail
  clear za0 za1 za2 za3
  (with_reducible refine (fright_pos _ ka.fv H1.out H2.out (FR.pos F1.out) true (decide_eq_true (FR.one F1.out))).mono ?_)
  rintro e u1 ⟨rfl, hb9⟩
  have hT := hT.trans (hb9.mono hT.size)
  have ka := ka.below hb9
  have kb := kb.below hb9
  have kR := kR.below hb9
  have zb0 := kb.c0
  have zb1 := kb.c1
  have zb2 := kb.c2
  have zb3 := kb.c3
  go_wp2_with fail
  clear zb0 zb1 zb2 zb3
  (with_reducible refine (fright_pos _ kb.fv H3.out H4.out (FR.pos F2.out) true (decide_eq_true (FR.one F2.out))).mono ?_)
  rintro e u2 ⟨rfl, hb9⟩
  have hT := hT.trans (hb9.mono hT.size)
  have ka := ka.below hb9
  have kb := kb.below hb9
  have kR := kR.below hb9
  have za0 := ka.c0
  have za1 := ka.c1
  have zb2 := kb.c2
  have zb3 := kb.c3
  go_wp2_with fail
  clear za0 za1
  clear zb2 zb3
  (with_reducible refine (mul_any _ _ _ _ _ ka.fv.a kb.fv.b H1.out H4.out).mono ?_)
  rintro e u3 ⟨rm, rfl, hrm, hb9⟩
  have hT := hT.trans (hb9.mono hT.size)
  have ka := ka.below hb9
  have kb := kb.below hb9
  have kR := kR.below hb9
  rw [HFm.out.1]
  rw [HFm.out.2] at hrm
  obtain ⟨sm, Am, nm, cm, rfl⟩ := hrm.form
  have kby := kb.below ((Below.refl _ u3).alloc (Nat.le_refl _) (.cells #[.int .i64 sm, .slice Am nm cm] 24))
  have zb0y := kby.c0
  have zb1y := kby.c1
  have kay := ka.below ((Below.refl _ u3).alloc (Nat.le_refl _) (.cells #[.int .i64 sm, .slice Am nm cm] 24))
  have za2y := kay.c2
  have za3y := kay.c3
  go_wp2_with fail
  clear zb0y zb1y
  clear kby
  clear za2y za3y
  clear kay
  obtain ⟨Wm, hW, hbx, km⟩ := box1 hrm
  rw [← hW]
  clear hW
  have hT := hT.trans (hbx.mono hT.size)
  have ka := ka.below hbx
  have kb := kb.below hbx
  have kR := kR.below hbx
  (with_reducible refine (mul_any _ _ _ _ _ kb.fv.a ka.fv.b H3.out H2.out).mono ?_)
  rintro e u4 ⟨rn, rfl, hrn, hb9⟩
  have hT := hT.trans (hb9.mono hT.size)
  have ka := ka.below hb9
  have kb := kb.below hb9
  have kR := kR.below hb9
  have km := km.below hb9
  rw [HFn.out.1]
  rw [HFn.out.2] at hrn
  obtain ⟨sn, An, nn, cn, rfl⟩ := hrn.form
  have kmy := km.below ((Below.refl _ u4).alloc (Nat.le_refl _) (.cells #[.int .i64 sn, .slice An nn cn] 24))
  have zm0y := kmy.c0
  have zm1y := kmy.c1
  go_wp2_with fail
  clear zm0y zm1y
  clear kmy
  obtain ⟨Wn, hW, hbx, kn⟩ := box1 hrn
  rw [← hW]
  clear hW
  have hT := hT.trans (hbx.mono hT.size)
  have ka := ka.below hbx
  have kb := kb.below hbx
  have kR := kR.below hbx
  have km := km.below hbx
  (with_reducible refine (sub_any _ _ _ _ _ km.bv kn.bv HKm.out HKn.out).mono ?_)
  rintro e u5 ⟨rs, rfl, hrs, hb9⟩
  have hT := hT.trans (hb9.mono hT.size)
  have ka := ka.below hb9
  have kb := kb.below hb9
  have kR := kR.below hb9
  have km := km.below hb9
  have kn := kn.below hb9
  rw [HFs.out.1]
  rw [HFs.out.2] at hrs
  obtain ⟨ss, As, ns, cs, rfl⟩ := hrs.form
  have kay := ka.below ((Below.refl _ u5).alloc (Nat.le_refl _) (.cells #[.int .i64 ss, .slice As ns cs] 24))
  have za2y := kay.c2
  have za3y := kay.c3
  have kby := kb.below ((Below.refl _ u5).alloc (Nat.le_refl _) (.cells #[.int .i64 ss, .slice As ns cs] 24))
  have zb2y := kby.c2
  have zb3y := kby.c3
  go_wp2_with fail
  clear za2y za3y
  clear kay
  clear zb2y zb3y
  clear kby
  obtain ⟨Ws, hW, hbx, ks⟩ := box1 hrs
  rw [← hW]
  clear hW
  have hT := hT.trans (hbx.mono hT.size)
  have ka := ka.below hbx
  have kb := kb.below hbx
  have kR := kR.below hbx
  have km := km.below hbx
  have kn := kn.below hbx
  (with_reducible refine (mul_any _ _ _ _ _ ka.fv.b kb.fv.b H2.out H4.out).mono ?_)
  rintro e u6 ⟨rt, rfl, hrt, hb9⟩
  have hT := hT.trans (hb9.mono hT.size)
  have ka := ka.below hb9
  have kb := kb.below hb9
  have kR := kR.below hb9
  have km := km.below hb9
  have kn := kn.below hb9
  have ks := ks.below hb9
  rw [HFt.out.1]
  rw [HFt.out.2] at hrt
  obtain ⟨st, At, nt, ct, rfl⟩ := hrt.form
  have hmx := fun (W : World) (ts : Array TypeId) (t : TypeId) => max4 Tryz.prog W ts t
  have ksy := ks.below ((Below.refl _ u6).alloc (Nat.le_refl _) (.cells #[.int .i64 st, .slice At nt ct] 24))
  have zs0y := ksy.c0
  have zs1y := ksy.c1
  go_wp2_with fail
  clear zs0y zs1y
  clear ksy
  obtain ⟨Wt, hW, hbx, kt⟩ := box1 hrt
  rw [← hW]
  clear hW
  have hT := hT.trans (hbx.mono hT.size)
  have ka := ka.below hbx
  have kb := kb.below hbx
  have kR := kR.below hbx
  have km := km.below hbx
  have kn := kn.below hbx
  have ks := ks.below hbx
  have hlt := kR.blk.lt
  (with_reducible refine (new_any _ _ _ _ _ _ _ _ _ _ _ ks.bv kt.bv HKs.out HKt.out).mono ?_)
  rintro e u7 ⟨rr, rfl, hrr, hb9⟩
  have hT := hT.trans (hb9.mono hT.size)
  have kR := kR.below hb9
  clear ka kb km kn ks kt
  rw [HP.out, HQ.out] at hrr
  rw [HE.out]
  obtain ⟨t1, C1, m1, e1, t2, C2, m2, e2, rfl, g1, g2⟩ := hrr
  have gR : w.heap.size ≤ w.heap.size + 1 + 1 := by omega
  have r0 := kR.blk.cell 0
  have r1 := kR.blk.cell 1
  have r2 := kR.blk.cell 2
  have r3 := kR.blk.cell 3
  have q0' := kR.blk.frozen 0
  have q1' := kR.blk.frozen 1
  have q2' := kR.blk.frozen 2
  have q3' := kR.blk.frozen 3
  simp at r0 r1 r2 r3
  have hbs := kR.blk.set4 (.int .i64 t1) (.slice C1 m1 e1) (.int .i64 t2) (.slice C2 m2 e2)
  have x0 := hbs.cell 0
  have x1 := hbs.cell 1
  have x2 := hbs.cell 2
  have x3 := hbs.cell 3
  simp at x0 x1 x2 x3
  go_wp2_with fail
  refine bodyPost_ret (v := .tuple #[.agg #[.int .i64 t1, .slice C1 m1 e1, .int .i64 t2, .slice C2 m2 e2], .int .i64 E]) (by simp [results, Tryz.results92, go_sem, x0, x1, x2, x3]) rfl ?_
  exact ⟨_, rfl, FO.mk2 ((g1.far4 hlt _ _ _ _).mono (by omega)) ((g2.far4 hlt _ _ _ _).mono (by omega)), below_st4 hT gR _ _ _ _⟩

set_option maxRecDepth 100000 in
set_option maxHeartbeats 8000000 in
theorem fadd_fit (s1 s2 s3 s4 : Int) (A1 A2 A3 A4 : Option Addr) (n1 d1 n2 d2 n3 d3 n4 d4 : Nat) (p1 q1 p2 q2 : Int) (w : World) (ha : FV w w.heap.size s1 A1 n1 d1 s2 A2 n2 d2 p1 q1) (hb : FV w w.heap.size s3 A3 n3 d3 s4 A4 n4 d4 p2 q2) (h1 : ab p1 < pw 60) (h2 : ab q1 < pw 60) (h3 : ab p2 < pw 60) (h4 : ab q2 < pw 60) (f1 : FR p1 q1) (f2 : FR p2 q2) (c1 : ab (p1 * q2) < pw 60) (c2 : ab (p2 * q1) < pw 60) (c3 : ab (p1 * q2 + p2 * q1) < pw 60) (c4 : ab (q1 * q2) < pw 60) :
    Calls Tryz.prog 35 #[.agg #[.int .i64 s1, .slice A1 n1 d1, .int .i64 s2, .slice A2 n2 d2], .agg #[.int .i64 s3, .slice A3 n3 d3, .int .i64 s4, .slice A4 n4 d4]] w (NewP (p1 * q2 + p2 * q1) (q1 * q2) w) := by
  have HI := Lib.hid (fun (w' : World) (hw : Below w.heap.size w w') => combine_add s1 s2 s3 s4 A1 A2 A3 A4 n1 d1 n2 d2 n3 d3 n4 d4 p1 q1 p2 q2 w' (ha.later hw) (hb.later hw) h1 h2 h3 h4 f1 f2 c1 c2 c3 c4)
  clear h1 h2 h3 h4 f1 f2 c1 c2 c3 c4
  unfold NewP
  obtain ⟨E, hE⟩ : ∃ E, newE (q1 * q2) = E := ⟨_, rfl⟩
  obtain ⟨P, hP⟩ : ∃ E, newN (p1 * q2 + p2 * q1) (q1 * q2) = E := ⟨_, rfl⟩
  obtain ⟨Q, hQ⟩ : ∃ E, newD (p1 * q2 + p2 * q1) (q1 * q2) = E := ⟨_, rfl⟩
  rw [hE, hP, hQ]
  have HE := Lib.hid hE; clear hE
  have HP := Lib.hid hP; clear hP
  have HQ := Lib.hid hQ; clear hQ
  go_enter Tryz.func35, Tryz.ntmps35
  go_wp2_with fail
  obtain ⟨W0, hW, hbx, ka, kb, kR⟩ := fboxes2 ha hb
  rw [← hW]
  clear hW ha hb
  have hT := hbx
  have za0 := ka.c0
  have za1 := ka.c1
  have za2 := ka.c2
  have za3 := ka.c3
  have zb0 := kb.c0
  have zb1 := kb.c1
  have zb2 := kb.c2
  have zb3 := kb.c3
  go_wp2_with fail
  clear za0 za1 za2 za3
  clear zb0 zb1 zb2 zb3
  have hlt := kR.blk.lt
  (with_reducible refine (HI.out _ hT).mono ?_)
  rintro e u3 ⟨rr, rfl, hrr, hb9⟩
  have hT := hT.trans (hb9.mono hT.size)
  have kR := kR.below hb9
  clear ka kb HI
  rw [HP.out, HQ.out] at hrr
  rw [HE.out]
  obtain ⟨t1, C1, m1, e1, t2, C2, m2, e2, rfl, g1, g2⟩ := hrr
  have gR : w.heap.size ≤ w.heap.size + 1 + 1 := by omega
  have r0 := kR.blk.cell 0
  have r1 := kR.blk.cell 1
  have r2 := kR.blk.cell 2
  have r3 := kR.blk.cell 3
  have q0' := kR.blk.frozen 0
  have q1' := kR.blk.frozen 1
  have q2' := kR.blk.frozen 2
  have q3' := kR.blk.frozen 3
  simp at r0 r1 r2 r3
  have hbs := kR.blk.set4 (.int .i64 t1) (.slice C1 m1 e1) (.int .i64 t2) (.slice C2 m2 e2)
  have x0 := hbs.cell 0
  have x1 := hbs.cell 1
  have x2 := hbs.cell 2
  have x3 := hbs.cell 3
  simp at x0 x1 x2 x3
  go_wp2_with fail
  refine bodyPost_ret (v := .tuple #[.agg #[.int .i64 t1, .slice C1 m1 e1, .int .i64 t2, .slice C2 m2 e2], .int .i64 E]) (by simp [results, Tryz.results35, go_sem, x0, x1, x2, x3]) rfl ?_
  exact ⟨_, rfl, FO.mk2 ((g1.far4 hlt _ _ _ _).mono (by omega)) ((g2.far4 hlt _ _ _ _).mono (by omega)), below_st4 hT gR _ _ _ _⟩

set_option maxRecDepth 100000 in
set_option maxHeartbeats 8000000 in
theorem fsub_fit (s1 s2 s3 s4 : Int) (A1 A2 A3 A4 : Option Addr) (n1 d1 n2 d2 n3 d3 n4 d4 : Nat) (p1 q1 p2 q2 : Int) (w : World) (ha : FV w w.heap.size s1 A1 n1 d1 s2 A2 n2 d2 p1 q1) (hb : FV w w.heap.size s3 A3 n3 d3 s4 A4 n4 d4 p2 q2) (h1 : ab p1 < pw 60) (h2 : ab q1 < pw 60) (h3 : ab p2 < pw 60) (h4 : ab q2 < pw 60) (f1 : FR p1 q1) (f2 : FR p2 q2) (c1 : ab (p1 * q2) < pw 60) (c2 : ab (p2 * q1) < pw 60) (c3 : ab (p1 * q2 - p2 * q1) < pw 60) (c4 : ab (q1 * q2) < pw 60) :
    Calls Tryz.prog 37 #[.agg #[.int .i64 s1, .slice A1 n1 d1, .int .i64 s2, .slice A2 n2 d2], .agg #[.int .i64 s3, .slice A3 n3 d3, .int .i64 s4, .slice A4 n4 d4]] w (NewP (p1 * q2 - p2 * q1) (q1 * q2) w) := by
  have HI := Lib.hid (fun (w' : World) (hw : Below w.heap.size w w') => combine_sub s1 s2 s3 s4 A1 A2 A3 A4 n1 d1 n2 d2 n3 d3 n4 d4 p1 q1 p2 q2 w' (ha.later hw) (hb.later hw) h1 h2 h3 h4 f1 f2 c1 c2 c3 c4)
  clear h1 h2 h3 h4 f1 f2 c1 c2 c3 c4
  unfold NewP
  obtain ⟨E, hE⟩ : ∃ E, newE (q1 * q2) = E := ⟨_, rfl⟩
  obtain ⟨P, hP⟩ : ∃ E, newN (p1 * q2 - p2 * q1) (q1 * q2) = E := ⟨_, rfl⟩
  obtain ⟨Q, hQ⟩ : ∃ E, newD (p1 * q2 - p2 * q1) (q1 * q2) = E := ⟨_, rfl⟩
  rw [hE, hP, hQ]
  have HE := Lib.hid hE; clear hE
  have HP := Lib.hid hP; clear hP
  have HQ := Lib.hid hQ; clear hQ
  go_enter Tryz.func37, Tryz.ntmps37
  go_wp2_with fail
  obtain ⟨W0, hW, hbx, ka, kb, kR⟩ := fboxes2 ha hb
  rw [← hW]
  clear hW ha hb
  have hT := hbx
  have za0 := ka.c0
  have za1 := ka.c1
  have za2 := ka.c2
  have za3 := ka.c3
  have zb0 := kb.c0
  have zb1 := kb.c1
  have zb2 := kb.c2
  have zb3 := kb.c3
  go_wp2_with fail
  clear za0 za1 za2 za3
  clear zb0 zb1 zb2 zb3
  have hlt := kR.blk.lt
  (with_reducible refine (HI.out _ hT).mono ?_)
  rintro e u3 ⟨rr, rfl, hrr, hb9⟩
  have hT := hT.trans (hb9.mono hT.size)
  have kR := kR.below hb9
  clear ka kb HI
  rw [HP.out, HQ.out] at hrr
  rw [HE.out]
  obtain ⟨t1, C1, m1, e1, t2, C2, m2, e2, rfl, g1, g2⟩ := hrr
  have gR : w.heap.size ≤ w.heap.size + 1 + 1 := by omega
  have r0 := kR.blk.cell 0
  have r1 := kR.blk.cell 1
  have r2 := kR.blk.cell 2
  have r3 := kR.blk.cell 3
  have q0' := kR.blk.frozen 0
  have q1' := kR.blk.frozen 1
  have q2' := kR.blk.frozen 2
  have q3' := kR.blk.frozen 3
  simp at r0 r1 r2 r3
  have hbs := kR.blk.set4 (.int .i64 t1) (.slice C1 m1 e1) (.int .i64 t2) (.slice C2 m2 e2)
  have x0 := hbs.cell 0
  have x1 := hbs.cell 1
  have x2 := hbs.cell 2
  have x3 := hbs.cell 3
  simp at x0 x1 x2 x3
  go_wp2_with fail
  refine bodyPost_ret (v := .tuple #[.agg #[.int .i64 t1, .slice C1 m1 e1, .int .i64 t2, .slice C2 m2 e2], .int .i64 E]) (by simp [results, Tryz.results37, go_sem, x0, x1, x2, x3]) rfl ?_
  exact ⟨_, rfl, FO.mk2 ((g1.far4 hlt _ _ _ _).mono (by omega)) ((g2.far4 hlt _ _ _ _).mono (by omega)), below_st4 hT gR _ _ _ _⟩

end Go.Proofs.YtkjpfnbdlbnbkaaGreatDoor

namespace Go.Proofs.YtkjpfnbdlbnbkaaGreatDoor
open Go.RowKit

/-- A fraction with so many digits at most above and below. -/
structure Rb (x : Rat) (k m : Nat) : Prop where
  n : ab x.num < pw k
  d : ab (x.den : Int) < pw m
section
variable {x y z : Rat} {k m k' m' e f : Nat}
theorem Rb.n60 (h : Rb x k m) (h1 : k ≤ 60) : ab x.num < pw 60 := up h.n h1
theorem Rb.d60 (h : Rb x k m) (h1 : m ≤ 60) : ab (x.den : Int) < pw 60 := up h.d h1
theorem den2_ne (x y : Rat) : (x.den : Int) * y.den ≠ 0 := Int.mul_ne_zero (den_ne x) (den_ne y)
theorem Rb.add (hx : Rb x k m) (hy : Rb y k' m') (h1 : k + m' < e) (h2 : k' + m < e) (h3 : f = m + m') : Rb (x + y) e f := by
  rw [← rat_add]
  exact ⟨num_lt (den2_ne x y) (ab_add_lt (ab_mul_lt hx.n hy.d rfl) (ab_mul_lt hy.n hx.d rfl) h1 h2), den_lt (den2_ne x y) (ab_mul_lt hx.d hy.d h3)⟩
theorem Rb.sub (hx : Rb x k m) (hy : Rb y k' m') (h1 : k + m' < e) (h2 : k' + m < e) (h3 : f = m + m') : Rb (x - y) e f := by
  rw [← rat_sub]
  exact ⟨num_lt (den2_ne x y) (ab_sub_lt (ab_mul_lt hx.n hy.d rfl) (ab_mul_lt hy.n hx.d rfl) h1 h2), den_lt (den2_ne x y) (ab_mul_lt hx.d hy.d h3)⟩
theorem Rb.mul (hx : Rb x k m) (hy : Rb y k' m') (h1 : e = k + k') (h3 : f = m + m') : Rb (x * y) e f := by
  rw [← rat_mul]
  exact ⟨num_lt (den2_ne x y) (ab_mul_lt hx.n hy.n h1), den_lt (den2_ne x y) (ab_mul_lt hx.d hy.d h3)⟩
theorem num_ne {x : Rat} (h : x ≠ 0) : x.num ≠ 0 := fun h' => h (Rat.num_eq_zero.1 h')
theorem Rb.div (hx : Rb x k m) (hy : Rb y k' m') (h0 : y ≠ 0) (h1 : e = k + m') (h3 : f = m + k') : Rb (x / y) e f := by
  rw [← rat_div]
  have hn : (x.den : Int) * y.num ≠ 0 := Int.mul_ne_zero (den_ne x) (num_ne h0)
  exact ⟨num_lt hn (ab_mul_lt hx.n hy.d h1), den_lt hn (ab_mul_lt hx.d hy.n h3)⟩
theorem Rb.neg (hx : Rb x k m) : Rb (-x) k m := ⟨by rw [Rat.neg_num, ab_neg]; exact hx.n, hx.d⟩

theorem cmpR_lt (h : x < y) : cmpR x y = -1 := by unfold cmpR; rw [if_pos h]
theorem cmpR_gt (h : y < x) : cmpR x y = 1 := by unfold cmpR; rw [if_neg (by grind), if_pos h]
theorem cmpR_self (x : Rat) : cmpR x x = 0 := by unfold cmpR; rw [if_neg (by grind), if_neg (by grind)]
theorem cmpR_cases (x y : Rat) : (x < y ∧ cmpR x y = -1) ∨ (x = y ∧ cmpR x y = 0) ∨ (y < x ∧ cmpR x y = 1) := by
  by_cases h : x < y
  · exact .inl ⟨h, cmpR_lt h⟩
  · by_cases h2 : y < x
    · exact .inr (.inr ⟨h2, cmpR_gt h2⟩)
    · obtain rfl : x = y := by grind
      exact .inr (.inl ⟨rfl, cmpR_self x⟩)
theorem cmpR_bd (x y : Rat) : -1 ≤ cmpR x y ∧ cmpR x y ≤ 1 := by rcases cmpR_cases x y with ⟨_, h⟩ | ⟨_, h⟩ | ⟨_, h⟩ <;> omega
theorem cmpR_zero : cmpR x y = 0 ↔ x = y := by
  rcases cmpR_cases x y with ⟨a, h⟩ | ⟨a, h⟩ | ⟨a, h⟩
  · constructor
    · intro; omega
    · rintro rfl; grind
  · exact ⟨fun _ => a, fun _ => h⟩
  · constructor
    · intro; omega
    · rintro rfl; grind
theorem cmpR_turn (x y : Rat) : cmpR y x = -cmpR x y := by
  rcases cmpR_cases x y with ⟨a, h⟩ | ⟨rfl, h⟩ | ⟨a, h⟩
  · rw [h, cmpR_gt a]; rfl
  · rw [h]; rfl
  · rw [h, cmpR_lt a]
theorem cmpR_trans (h1 : cmpR x y ≤ 0) (h2 : cmpR y z ≤ 0) : cmpR x z ≤ 0 := by
  rcases cmpR_cases x y with ⟨a, h⟩ | ⟨rfl, h⟩ | ⟨a, h⟩
  · rcases cmpR_cases y z with ⟨b, h'⟩ | ⟨rfl, h'⟩ | ⟨b, h'⟩
    · rw [cmpR_lt (by grind)]; omega
    · rw [cmpR_lt a]; omega
    · omega
  · exact h2
  · omega
theorem cmpR_of {u v : Rat} (h1 : x < y → u < v) (h2 : x = y → u = v) (h3 : y < x → v < u) : cmpR u v = cmpR x y := by
  rcases cmpR_cases x y with ⟨a, h⟩ | ⟨a, h⟩ | ⟨a, h⟩
  · rw [h, cmpR_lt (h1 a)]
  · rw [h, h2 a, cmpR_self]
  · rw [h, cmpR_gt (h3 a)]
theorem cmpR_add (x y z : Rat) : cmpR (x + z) (y + z) = cmpR x y := cmpR_of (by grind) (by grind) (by grind)
theorem sgn_num (x : Rat) : sgn x.num = cmpR x 0 := by
  have k1 : 0 ≤ x.num ↔ 0 ≤ x := Rat.num_nonneg
  have k2 : x.num = 0 ↔ x = 0 := Rat.num_eq_zero
  rcases cmpR_cases x 0 with ⟨a, h⟩ | ⟨a, h⟩ | ⟨a, h⟩
  · have : ¬ 0 ≤ x := by grind
    rw [← k1] at this
    rw [h, sgn_of_neg (by omega)]
  · rw [h, a]; rfl
  · have h1 : 0 ≤ x := by grind
    have h2 : x ≠ 0 := by grind
    rw [← k1] at h1
    rw [Ne, ← k2] at h2
    rw [h, sgn_pos (by omega)]
theorem sgn_sub (x y : Rat) : sgn (x - y).num = cmpR x y := by
  rw [sgn_num]; exact cmpR_of (by grind) (by grind) (by grind)
theorem mul_neg_lt (h : x < y) (hz : z < 0) : y * z < x * z := by
  have := Rat.mul_lt_mul_of_pos_right h (show 0 < -z by grind)
  grind
theorem cmpR_mul (x y z : Rat) : cmpR (x * z) (y * z) = cmpR x y * sgn z.num := by
  rw [sgn_num]
  rcases cmpR_cases z 0 with ⟨a, h⟩ | ⟨a, h⟩ | ⟨a, h⟩
  · rw [h, Int.mul_neg, Int.mul_one, ← cmpR_turn]
    exact cmpR_of (fun h => mul_neg_lt h a) (by grind) (fun h => mul_neg_lt h a)
  · rw [h, a, Rat.mul_zero, Rat.mul_zero, Int.mul_zero, cmpR_self]
  · rw [h, Int.mul_one]
    exact cmpR_of (fun h => Rat.mul_lt_mul_of_pos_right h a) (by grind) (fun h => Rat.mul_lt_mul_of_pos_right h a)
theorem same_rat (x y : Rat) : decide (x.num = y.num ∧ (x.den : Int) = y.den) = decide (x = y) := by
  rw [decide_eq_decide]
  constructor
  · rintro ⟨a, b⟩; exact Rat.ext a (by omega)
  · rintro rfl; exact ⟨rfl, rfl⟩

/-- The integral part of the opposite. -/
theorem floor_neg_int {x : Rat} (h : x = (x.floor : Rat)) : (-x).floor = -x.floor := by
  conv => lhs; rw [h]
  rw [← Rat.intCast_neg, Rat.floor_intCast]
theorem floor_neg_not {x : Rat} (h : x ≠ (x.floor : Rat)) : (-x).floor = -(x.floor + 1) := by
  have h1 : (x.floor : Rat) < x := by have := Rat.floor_le x; grind
  have h2 := Rat.lt_floor_add_one x
  rw [Rat.intCast_add] at h2
  have key : ∀ z : Int, z ≤ (-x).floor ↔ (z : Rat) ≤ -x := fun z => Rat.le_floor_iff
  have k1 : -(x.floor + 1) ≤ (-x).floor := by
    rw [key, Rat.intCast_neg, Rat.intCast_add]; grind
  have k2 : ¬ -(x.floor + 1) + 1 ≤ (-x).floor := by
    rw [key, show -(x.floor + 1) + 1 = -x.floor by omega, Rat.intCast_neg]; grind
  omega
theorem ab_floor {x : Rat} (h : ab x.num < pw k) : ab x.floor < pw (k + 1) := by
  have h1 := pw_le (show k ≤ k + 1 by omega)
  have hs := pw_succ k
  have hp := pw_pos k
  have hd := (FR.of x).1
  have key : x.floor = x.num / x.den := Rat.floor_def x
  have h2 : (x.num / (x.den : Int)).natAbs ≤ x.num.natAbs := Int.natAbs_ediv_le_natAbs _ _
  rw [← key] at h2
  unfold ab at *
  omega
end

end Go.Proofs.YtkjpfnbdlbnbkaaGreatDoor

namespace Go.Proofs.YtkjpfnbdlbnbkaaGreatDoor
open Go.RowKit

theorem fite_06 {z e : Int} (h : fite z = e) : e = 0 ∨ e = 6 := by
  subst h; unfold fite; split
  · exact .inl rfl
  · exact .inr rfl
theorem fite_0 {z : Int} (h : fite z = 0) : ab z < pw 60 := by
  unfold fite at h; split at h
  · assumption
  · cases h
theorem max4_full (P : Program) (W : World) (ts : Array TypeId) (t : TypeId) {a b c d : Int} (ha : a = 0 ∨ a = 6) (hb : b = 0 ∨ b = 6) (hc : c = 0 ∨ c = 6) (hd : d = 0 ∨ d = 6) (h : ¬ (a = 0 ∧ b = 0 ∧ c = 0 ∧ d = 0)) :
    (Builtin.max_ ts t #[.int .i64 a, .int .i64 b, .int .i64 c, .int .i64 d]).run P W = .ok (.int .i64 6) W := by
  rcases ha with rfl | rfl <;> rcases hb with rfl | rfl <;> rcases hc with rfl | rfl <;> rcases hd with rfl | rfl <;> first | exact absurd ⟨rfl, rfl, rfl, rfl⟩ h | simp [Builtin.max_, Builtin.max2]

set_option maxRecDepth 100000 in
set_option maxHeartbeats 8000000 in
theorem combine_add_full (s1 s2 s3 s4 : Int) (A1 A2 A3 A4 : Option Addr) (n1 d1 n2 d2 n3 d3 n4 d4 : Nat) (p1 q1 p2 q2 : Int) (w : World) (ha : FV w w.heap.size s1 A1 n1 d1 s2 A2 n2 d2 p1 q1) (hb : FV w w.heap.size s3 A3 n3 d3 s4 A4 n4 d4 p2 q2) (h1 : ab p1 < pw 60) (h2 : ab q1 < pw 60) (h3 : ab p2 < pw 60) (h4 : ab q2 < pw 60) (f1 : FR p1 q1) (f2 : FR p2 q2) (hf : ¬ (ab (p1 * q2) < pw 60 ∧ ab (p2 * q1) < pw 60 ∧ ab (p1 * q2 + p2 * q1) < pw 60 ∧ ab (q1 * q2) < pw 60)) :
    Calls Tryz.prog 92 #[.agg #[.int .i64 s1, .slice A1 n1 d1, .int .i64 s2, .slice A2 n2 d2], .agg #[.int .i64 s3, .slice A3 n3 d3, .int .i64 s4, .slice A4 n4 d4], .func (.func 7) #[] #[]] w fun e w' => e = .returned (.tuple #[.agg #[.int .i64 0, .slice none 0 0, .int .i64 0, .slice none 0 0], .int .i64 6]) ∧ Below w.heap.size w w' := by
  have H1 := Lib.hid h1; clear h1
  have H2 := Lib.hid h2; clear h2
  have H3 := Lib.hid h3; clear h3
  have H4 := Lib.hid h4; clear h4
  have F1 := Lib.hid f1; clear f1
  have F2 := Lib.hid f2; clear f2
  obtain ⟨Em, hEm⟩ : ∃ z, fite (p1 * q2) = z := ⟨_, rfl⟩
  obtain ⟨Zm, hZm⟩ : ∃ z, fitz (p1 * q2) = z := ⟨_, rfl⟩
  obtain ⟨En, hEn⟩ : ∃ z, fite (p2 * q1) = z := ⟨_, rfl⟩
  obtain ⟨Zn, hZn⟩ : ∃ z, fitz (p2 * q1) = z := ⟨_, rfl⟩
  obtain ⟨Es, hEs⟩ : ∃ z, fite (Zm + Zn) = z := ⟨_, rfl⟩
  obtain ⟨Zs, hZs⟩ : ∃ z, fitz (Zm + Zn) = z := ⟨_, rfl⟩
  obtain ⟨Et, hEt⟩ : ∃ z, fite (q1 * q2) = z := ⟨_, rfl⟩
  obtain ⟨Zt, hZt⟩ : ∃ z, fitz (q1 * q2) = z := ⟨_, rfl⟩
  have hz1 : ab Zm < pw 60 := by rw [← hZm]; exact fitz_lt _
  have hz2 : ab Zn < pw 60 := by rw [← hZn]; exact fitz_lt _
  have hmx := fun (W : World) (ts : Array TypeId) (t : TypeId) => max4_full Tryz.prog W ts t (fite_06 hEm) (fite_06 hEn) (fite_06 hEs) (fite_06 hEt) (fun ⟨a, b, c, d⟩ => hf (by
    subst a b c d
    have k1 := fite_0 hEm
    have k2 := fite_0 hEn
    have k3 := fite_0 hEs
    have k4 := fite_0 hEt
    rw [(fits k1).2] at hZm
    rw [(fits k2).2] at hZn
    subst hZm hZn
    exact ⟨k1, k2, k3, k4⟩))
  clear hf
  have HZ1 := Lib.hid hz1; clear hz1
  have HZ2 := Lib.hid hz2; clear hz2
  have HEm := Lib.hid hEm; clear hEm
  have HZm := Lib.hid hZm; clear hZm
  have HEn := Lib.hid hEn; clear hEn
  have HZn := Lib.hid hZn; clear hZn
  have HEs := Lib.hid hEs; clear hEs
  have HZs := Lib.hid hZs; clear hZs
  have HEt := Lib.hid hEt; clear hEt
  have HZt := Lib.hid hZt; clear hZt
  have HMX := Lib.hid hmx; clear hmx
  go_enter Tryz.func92, Tryz.ntmps92
  go_wp2_with fail
  obtain ⟨W0, hW, hbx, ka, kb, kR⟩ := fboxes2 ha hb
  rw [← hW]
  clear hW ha hb
  have hT := hbx
  have za0 := ka.c0
  have za1 := ka.c1
  have za2 := ka.c2
  have za3 := ka.c3
  go_wp2_with fail
  clear za0 za1 za2 za3
  (with_reducible refine (fright_pos _ ka.fv H1.out H2.out (FR.pos F1.out) true (decide_eq_true (FR.one F1.out))).mono ?_)
  rintro e u1 ⟨rfl, hb9⟩
  have hT := hT.trans (hb9.mono hT.size)
  have ka := ka.below hb9
  have kb := kb.below hb9
  have kR := kR.below hb9
  have zb0 := kb.c0
  have zb1 := kb.c1
  have zb2 := kb.c2
  have zb3 := kb.c3
  go_wp2_with fail
  clear zb0 zb1 zb2 zb3
  (with_reducible refine (fright_pos _ kb.fv H3.out H4.out (FR.pos F2.out) true (decide_eq_true (FR.one F2.out))).mono ?_)
  rintro e u2 ⟨rfl, hb9⟩
  have hT := hT.trans (hb9.mono hT.size)
  have ka := ka.below hb9
  have kb := kb.below hb9
  have kR := kR.below hb9
  have za0 := ka.c0
  have za1 := ka.c1
  have zb2 := kb.c2
  have zb3 := kb.c3
  go_wp2_with fail
  clear za0 za1
  clear zb2 zb3
  (with_reducible refine (mul_any _ _ _ _ _ ka.fv.a kb.fv.b H1.out H4.out).mono ?_)
  rintro e u3 ⟨rm, rfl, hrm, hb9⟩
  have hT := hT.trans (hb9.mono hT.size)
  have ka := ka.below hb9
  have kb := kb.below hb9
  have kR := kR.below hb9
  rw [HEm.out]
  rw [HZm.out] at hrm
  obtain ⟨sm, Am, nm, cm, rfl⟩ := hrm.form
  have kby := kb.below ((Below.refl _ u3).alloc (Nat.le_refl _) (.cells #[.int .i64 sm, .slice Am nm cm] 24))
  have zb0y := kby.c0
  have zb1y := kby.c1
  have kay := ka.below ((Below.refl _ u3).alloc (Nat.le_refl _) (.cells #[.int .i64 sm, .slice Am nm cm] 24))
  have za2y := kay.c2
  have za3y := kay.c3
  go_wp2_with fail
  clear zb0y zb1y
  clear kby
  clear za2y za3y
  clear kay
  obtain ⟨Wm, hW, hbx, km⟩ := box1 hrm
  rw [← hW]
  clear hW
  have hT := hT.trans (hbx.mono hT.size)
  have ka := ka.below hbx
  have kb := kb.below hbx
  have kR := kR.below hbx
  (with_reducible refine (mul_any _ _ _ _ _ kb.fv.a ka.fv.b H3.out H2.out).mono ?_)
  rintro e u4 ⟨rn, rfl, hrn, hb9⟩
  have hT := hT.trans (hb9.mono hT.size)
  have ka := ka.below hb9
  have kb := kb.below hb9
  have kR := kR.below hb9
  have km := km.below hb9
  rw [HEn.out]
  rw [HZn.out] at hrn
  obtain ⟨sn, An, nn, cn, rfl⟩ := hrn.form
  have kmy := km.below ((Below.refl _ u4).alloc (Nat.le_refl _) (.cells #[.int .i64 sn, .slice An nn cn] 24))
  have zm0y := kmy.c0
  have zm1y := kmy.c1
  go_wp2_with fail
  clear zm0y zm1y
  clear kmy
  obtain ⟨Wn, hW, hbx, kn⟩ := box1 hrn
  rw [← hW]
  clear hW
  have hT := hT.trans (hbx.mono hT.size)
  have ka := ka.below hbx
  have kb := kb.below hbx
  have kR := kR.below hbx
  have km := km.below hbx
  (with_reducible refine (add_any _ _ _ _ _ km.bv kn.bv HZ1.out HZ2.out).mono ?_)
  rintro e u5 ⟨rs, rfl, hrs, hb9⟩
  have hT := hT.trans (hb9.mono hT.size)
  have ka := ka.below hb9
  have kb := kb.below hb9
  have kR := kR.below hb9
  have km := km.below hb9
  have kn := kn.below hb9
  rw [HEs.out]
  rw [HZs.out] at hrs
  obtain ⟨ss, As, ns, cs, rfl⟩ := hrs.form
  have kay := ka.below ((Below.refl _ u5).alloc (Nat.le_refl _) (.cells #[.int .i64 ss, .slice As ns cs] 24))
  have za2y := kay.c2
  have za3y := kay.c3
  have kby := kb.below ((Below.refl _ u5).alloc (Nat.le_refl _) (.cells #[.int .i64 ss, .slice As ns cs] 24))
  have zb2y := kby.c2
  have zb3y := kby.c3
  go_wp2_with fail
  clear za2y za3y
  clear kay
  clear zb2y zb3y
  clear kby
  obtain ⟨Ws, hW, hbx, ks⟩ := box1 hrs
  rw [← hW]
  clear hW
  have hT := hT.trans (hbx.mono hT.size)
  have ka := ka.below hbx
  have kb := kb.below hbx
  have kR := kR.below hbx
  have km := km.below hbx
  have kn := kn.below hbx
  (with_reducible refine (mul_any _ _ _ _ _ ka.fv.b kb.fv.b H2.out H4.out).mono ?_)
  rintro e u6 ⟨rt, rfl, hrt, hb9⟩
  have hT := hT.trans (hb9.mono hT.size)
  have ka := ka.below hb9
  have kb := kb.below hb9
  have kR := kR.below hb9
  have km := km.below hb9
  have kn := kn.below hb9
  have ks := ks.below hb9
  rw [HEt.out]
  rw [HZt.out] at hrt
  obtain ⟨st, At, nt, ct, rfl⟩ := hrt.form
  clear ka kb km kn ks
  have kR := kR.below ((Below.refl _ u6).alloc (Nat.le_refl _) (.cells #[.int .i64 st, .slice At nt ct] 24))
  have hT := hT.alloc hT.size (.cells #[.int .i64 st, .slice At nt ct] 24)
  have hmx := HMX.out; clear HMX
  have gR : w.heap.size ≤ w.heap.size + 1 + 1 := by omega
  have r0 := kR.blk.cell 0
  have r1 := kR.blk.cell 1
  have r2 := kR.blk.cell 2
  have r3 := kR.blk.cell 3
  have q0' := kR.blk.frozen 0
  have q1' := kR.blk.frozen 1
  have q2' := kR.blk.frozen 2
  have q3' := kR.blk.frozen 3
  simp at r0 r1 r2 r3
  have hbs := kR.blk.set4 (.int .i64 0) (.slice none 0 0) (.int .i64 0) (.slice none 0 0)
  have x0 := hbs.cell 0
  have x1 := hbs.cell 1
  have x2 := hbs.cell 2
  have x3 := hbs.cell 3
  simp at x0 x1 x2 x3
  go_wp2_with fail
  refine bodyPost_ret (v := .tuple #[.agg #[.int .i64 0, .slice none 0 0, .int .i64 0, .slice none 0 0], .int .i64 6]) (by simp [results, Tryz.results92, go_sem, x0, x1, x2, x3]) rfl ?_
  exact ⟨rfl, below_st4 hT gR _ _ _ _⟩

set_option maxRecDepth 100000 in
set_option maxHeartbeats 8000000 in
theorem combine_sub_full (s1 s2 s3 s4 : Int) (A1 A2 A3 A4 : Option Addr) (n1 d1 n2 d2 n3 d3 n4 d4 : Nat) (p1 q1 p2 q2 : Int) (w : World) (ha : FV w w.heap.size s1 A1 n1 d1 s2 A2 n2 d2 p1 q1) (hb : FV w w.heap.size s3 A3 n3 d3 s4 A4 n4 d4 p2 q2) (h1 : ab p1 < pw 60) (h2 : ab q1 < pw 60) (h3 : ab p2 < pw 60) (h4 : ab q2 < pw 60) (f1 : FR p1 q1) (f2 : FR p2 q2) (hf : ¬ (ab (p1 * q2) < pw 60 ∧ ab (p2 * q1) < pw 60 ∧ ab (p1 * q2 - p2 * q1) < pw 60 ∧ ab (q1 * q2) < pw 60)) :
    Calls Tryz.prog 92 #[.agg #[.int .i64 s1, .slice A1 n1 d1, .int .i64 s2, .slice A2 n2 d2], .agg #[.int .i64 s3, .slice A3 n3 d3, .int .i64 s4, .slice A4 n4 d4], .func (.func 9) #[] #[]] w fun e w' => e = .returned (.tuple #[.agg #[.int .i64 0, .slice none 0 0, .int .i64 0, .slice none 0 0], .int .i64 6]) ∧ Below w.heap.size w w' := by
  have H1 := Lib.hid h1; clear h1
  have H2 := Lib.hid h2; clear h2
  have H3 := Lib.hid h3; clear h3
  have H4 := Lib.hid h4; clear h4
  have F1 := Lib.hid f1; clear f1
  have F2 := Lib.hid f2; clear f2
  obtain ⟨Em, hEm⟩ : ∃ z, fite (p1 * q2) = z := ⟨_, rfl⟩
  obtain ⟨Zm, hZm⟩ : ∃ z, fitz (p1 * q2) = z := ⟨_, rfl⟩
  obtain ⟨En, hEn⟩ : ∃ z, fite (p2 * q1) = z := ⟨_, rfl⟩
  obtain ⟨Zn, hZn⟩ : ∃ z, fitz (p2 * q1) = z := ⟨_, rfl⟩
  obtain ⟨Es, hEs⟩ : ∃ z, fite (Zm - Zn) = z := ⟨_, rfl⟩
  obtain ⟨Zs, hZs⟩ : ∃ z, fitz (Zm - Zn) = z := ⟨_, rfl⟩
  obtain ⟨Et, hEt⟩ : ∃ z, fite (q1 * q2) = z := ⟨_, rfl⟩
  obtain ⟨Zt, hZt⟩ : ∃ z, fitz (q1 * q2) = z := ⟨_, rfl⟩
  have hz1 : ab Zm < pw 60 := by rw [← hZm]; exact fitz_lt _
  have hz2 : ab Zn < pw 60 := by rw [← hZn]; exact fitz_lt _
  have hmx := fun (W : World) (ts : Array TypeId) (t : TypeId) => max4_full Tryz.prog W ts t (fite_06 hEm) (fite_06 hEn) (fite_06 hEs) (fite_06 hEt) (fun ⟨a, b, c, d⟩ => hf (by
    subst a b c d
    have k1 := fite_0 hEm
    have k2 := fite_0 hEn
    have k3 := fite_0 hEs
    have k4 := fite_0 hEt
    rw [(fits k1).2] at hZm
    rw [(fits k2).2] at hZn
    subst hZm hZn
    exact ⟨k1, k2, k3, k4⟩))
  clear hf
  have HZ1 := Lib.hid hz1; clear hz1
  have HZ2 := Lib.hid hz2; clear hz2
  have HEm := Lib.hid hEm; clear hEm
  have HZm := Lib.hid hZm; clear hZm
  have HEn := Lib.hid hEn; clear hEn
  have HZn := Lib.hid hZn; clear hZn
  have HEs := Lib.hid hEs; clear hEs
  have HZs := Lib.hid hZs; clear hZs
  have HEt := Lib.hid hEt; clear hEt
  have HZt := Lib.hid hZt; clear hZt
  have HMX := Lib.hid hmx; clear hmx
  go_enter Tryz.func92, Tryz.ntmps92
  go_wp2_with fail
  obtain ⟨W0, hW, hbx, ka, kb, kR⟩ := fboxes2 ha hb
  rw [← hW]
  clear hW ha hb
  have hT := hbx
  have za0 := ka.c0
  have za1 := ka.c1
  have za2 := ka.c2
  have za3 := ka.c3
  go_wp2_with fail
  clear za0 za1 za2 za3
  (with_reducible refine (fright_pos _ ka.fv H1.out H2.out (FR.pos F1.out) true (decide_eq_true (FR.one F1.out))).mono ?_)
  rintro e u1 ⟨rfl, hb9⟩
  have hT := hT.trans (hb9.mono hT.size)
  have ka := ka.below hb9
  have kb := kb.below hb9
  have kR := kR.below hb9
  have zb0 := kb.c0
  have zb1 := kb.c1
  have zb2 := kb.c2
  have zb3 := kb.c3
  go_wp2_with fail
  clear zb0 zb1 zb2 zb3
  (with_reducible refine (fright_pos _ kb.fv H3.out H4.out (FR.pos F2.out) true (decide_eq_true (FR.one F2.out))).mono ?_)
  rintro e u2 ⟨rfl, hb9⟩
  have hT := hT.trans (hb9.mono hT.size)
  have ka := ka.below hb9
  have kb := kb.below hb9
  have kR := kR.below hb9
  have za0 := ka.c0
  have za1 := ka.c1
  have zb2 := kb.c2
  have zb3 := kb.c3
  go_wp2_with fail
  clear za0 za1
  clear zb2 zb3
  (with_reducible refine (mul_any _ _ _ _ _ ka.fv.a kb.fv.b H1.out H4.out).mono ?_)
  rintro e u3 ⟨rm, rfl, hrm, hb9⟩
  have hT := hT.trans (hb9.mono hT.size)
  have ka := ka.below hb9
  have kb := kb.below hb9
  have kR := kR.below hb9
  rw [HEm.out]
  rw [HZm.out] at hrm
  obtain ⟨sm, Am, nm, cm, rfl⟩ := hrm.form
  have kby := kb.below ((Below.refl _ u3).alloc (Nat.le_refl _) (.cells #[.int .i64 sm, .slice Am nm cm] 24))
  have zb0y := kby.c0
  have zb1y := kby.c1
  have kay := ka.below ((Below.refl _ u3).alloc (Nat.le_refl _) (.cells #[.int .i64 sm, .slice Am nm cm] 24))
  have za2y := kay.c2
  have za3y := kay.c3
  go_wp2_with fail
  clear zb0y zb1y
  clear kby
  clear za2y za3y
  clear kay
  obtain ⟨Wm, hW, hbx, km⟩ := box1 hrm
  rw [← hW]
  clear hW
  have hT := hT.trans (hbx.mono hT.size)
  have ka := ka.below hbx
  have kb := kb.below hbx
  have kR := kR.below hbx
  (with_reducible refine (mul_any _ _ _ _ _ kb.fv.a ka.fv.b H3.out H2.out).mono ?_)
  rintro e u4 ⟨rn, rfl, hrn, hb9⟩
  have hT := hT.trans (hb9.mono hT.size)
  have ka := ka.below hb9
  have kb := kb.below hb9
  have kR := kR.below hb9
  have km := km.below hb9
  rw [HEn.out]
  rw [HZn.out] at hrn
  obtain ⟨sn, An, nn, cn, rfl⟩ := hrn.form
  have kmy := km.below ((Below.refl _ u4).alloc (Nat.le_refl _) (.cells #[.int .i64 sn, .slice An nn cn] 24))
  have zm0y := kmy.c0
  have zm1y := kmy.c1
  go_wp2_with fail
  clear zm0y zm1y
  clear kmy
  obtain ⟨Wn, hW, hbx, kn⟩ := box1 hrn
  rw [← hW]
  clear hW
  have hT := hT.trans (hbx.mono hT.size)
  have ka := ka.below hbx
  have kb := kb.below hbx
  have kR := kR.below hbx
  have km := km.below hbx
  (with_reducible refine (sub_any _ _ _ _ _ km.bv kn.bv HZ1.out HZ2.out).mono ?_)
  rintro e u5 ⟨rs, rfl, hrs, hb9⟩
  have hT := hT.trans (hb9.mono hT.size)
  have ka := ka.below hb9
  have kb := kb.below hb9
  have kR := kR.below hb9
  have km := km.below hb9
  have kn := kn.below hb9
  rw [HEs.out]
  rw [HZs.out] at hrs
  obtain ⟨ss, As, ns, cs, rfl⟩ := hrs.form
  have kay := ka.below ((Below.refl _ u5).alloc (Nat.le_refl _) (.cells #[.int .i64 ss, .slice As ns cs] 24))
  have za2y := kay.c2
  have za3y := kay.c3
  have kby := kb.below ((Below.refl _ u5).alloc (Nat.le_refl _) (.cells #[.int .i64 ss, .slice As ns cs] 24))
  have zb2y := kby.c2
  have zb3y := kby.c3
  go_wp2_with fail
  clear za2y za3y
  clear kay
  clear zb2y zb3y
  clear kby
  obtain ⟨Ws, hW, hbx, ks⟩ := box1 hrs
  rw [← hW]
  clear hW
  have hT := hT.trans (hbx.mono hT.size)
  have ka := ka.below hbx
  have kb := kb.below hbx
  have kR := kR.below hbx
  have km := km.below hbx
  have kn := kn.below hbx
  (with_reducible refine (mul_any _ _ _ _ _ ka.fv.b kb.fv.b H2.out H4.out).mono ?_)
  rintro e u6 ⟨rt, rfl, hrt, hb9⟩
  have hT := hT.trans (hb9.mono hT.size)
  have ka := ka.below hb9
  have kb := kb.below hb9
  have kR := kR.below hb9
  have km := km.below hb9
  have kn := kn.below hb9
  have ks := ks.below hb9
  rw [HEt.out]
  rw [HZt.out] at hrt
  obtain ⟨st, At, nt, ct, rfl⟩ := hrt.form
  clear ka kb km kn ks
  have kR := kR.below ((Below.refl _ u6).alloc (Nat.le_refl _) (.cells #[.int .i64 st, .slice At nt ct] 24))
  have hT := hT.alloc hT.size (.cells #[.int .i64 st, .slice At nt ct] 24)
  have hmx := HMX.out; clear HMX
  have gR : w.heap.size ≤ w.heap.size + 1 + 1 := by omega
  have r0 := kR.blk.cell 0
  have r1 := kR.blk.cell 1
  have r2 := kR.blk.cell 2
  have r3 := kR.blk.cell 3
  have q0' := kR.blk.frozen 0
  have q1' := kR.blk.frozen 1
  have q2' := kR.blk.frozen 2
  have q3' := kR.blk.frozen 3
  simp at r0 r1 r2 r3
  have hbs := kR.blk.set4 (.int .i64 0) (.slice none 0 0) (.int .i64 0) (.slice none 0 0)
  have x0 := hbs.cell 0
  have x1 := hbs.cell 1
  have x2 := hbs.cell 2
  have x3 := hbs.cell 3
  simp at x0 x1 x2 x3
  go_wp2_with fail
  refine bodyPost_ret (v := .tuple #[.agg #[.int .i64 0, .slice none 0 0, .int .i64 0, .slice none 0 0], .int .i64 6]) (by simp [results, Tryz.results92, go_sem, x0, x1, x2, x3]) rfl ?_
  exact ⟨rfl, below_st4 hT gR _ _ _ _⟩

set_option maxRecDepth 100000 in
set_option maxHeartbeats 8000000 in
theorem fadd_full (s1 s2 s3 s4 : Int) (A1 A2 A3 A4 : Option Addr) (n1 d1 n2 d2 n3 d3 n4 d4 : Nat) (p1 q1 p2 q2 : Int) (w : World) (ha : FV w w.heap.size s1 A1 n1 d1 s2 A2 n2 d2 p1 q1) (hb : FV w w.heap.size s3 A3 n3 d3 s4 A4 n4 d4 p2 q2) (h1 : ab p1 < pw 60) (h2 : ab q1 < pw 60) (h3 : ab p2 < pw 60) (h4 : ab q2 < pw 60) (f1 : FR p1 q1) (f2 : FR p2 q2) (hf : ¬ (ab (p1 * q2) < pw 60 ∧ ab (p2 * q1) < pw 60 ∧ ab (p1 * q2 + p2 * q1) < pw 60 ∧ ab (q1 * q2) < pw 60)) :
    Calls Tryz.prog 35 #[.agg #[.int .i64 s1, .slice A1 n1 d1, .int .i64 s2, .slice A2 n2 d2], .agg #[.int .i64 s3, .slice A3 n3 d3, .int .i64 s4, .slice A4 n4 d4]] w fun e w' => e = .returned (.tuple #[.agg #[.int .i64 0, .slice none 0 0, .int .i64 0, .slice none 0 0], .int .i64 6]) ∧ Below w.heap.size w w' := by
  have HI := Lib.hid (fun (w' : World) (hw : Below w.heap.size w w') => combine_add_full s1 s2 s3 s4 A1 A2 A3 A4 n1 d1 n2 d2 n3 d3 n4 d4 p1 q1 p2 q2 w' (ha.later hw) (hb.later hw) h1 h2 h3 h4 f1 f2 hf)
  clear h1 h2 h3 h4 f1 f2 hf
  go_enter Tryz.func35, Tryz.ntmps35
  go_wp2_with fail
  obtain ⟨W0, hW, hbx, ka, kb, kR⟩ := fboxes2 ha hb
  rw [← hW]
  clear hW ha hb
  have hT := hbx
  have za0 := ka.c0
  have za1 := ka.c1
  have za2 := ka.c2
  have za3 := ka.c3
  have zb0 := kb.c0
  have zb1 := kb.c1
  have zb2 := kb.c2
  have zb3 := kb.c3
  go_wp2_with fail
  clear za0 za1 za2 za3
  clear zb0 zb1 zb2 zb3
  (with_reducible refine (HI.out _ hT).mono ?_)
  rintro e u3 ⟨rfl, hb9⟩
  have hT := hT.trans (hb9.mono hT.size)
  have kR := kR.below hb9
  clear ka kb HI
  have gR : w.heap.size ≤ w.heap.size + 1 + 1 := by omega
  have r0 := kR.blk.cell 0
  have r1 := kR.blk.cell 1
  have r2 := kR.blk.cell 2
  have r3 := kR.blk.cell 3
  have q0' := kR.blk.frozen 0
  have q1' := kR.blk.frozen 1
  have q2' := kR.blk.frozen 2
  have q3' := kR.blk.frozen 3
  simp at r0 r1 r2 r3
  have hbs := kR.blk.set4 (.int .i64 0) (.slice none 0 0) (.int .i64 0) (.slice none 0 0)
  have x0 := hbs.cell 0
  have x1 := hbs.cell 1
  have x2 := hbs.cell 2
  have x3 := hbs.cell 3
  simp at x0 x1 x2 x3
  go_wp2_with fail
  refine bodyPost_ret (v := .tuple #[.agg #[.int .i64 0, .slice none 0 0, .int .i64 0, .slice none 0 0], .int .i64 6]) (by simp [results, Tryz.results35, go_sem, x0, x1, x2, x3]) rfl ?_
  exact ⟨rfl, below_st4 hT gR _ _ _ _⟩

set_option maxRecDepth 100000 in
set_option maxHeartbeats 8000000 in
theorem fsub_full (s1 s2 s3 s4 : Int) (A1 A2 A3 A4 : Option Addr) (n1 d1 n2 d2 n3 d3 n4 d4 : Nat) (p1 q1 p2 q2 : Int) (w : World) (ha : FV w w.heap.size s1 A1 n1 d1 s2 A2 n2 d2 p1 q1) (hb : FV w w.heap.size s3 A3 n3 d3 s4 A4 n4 d4 p2 q2) (h1 : ab p1 < pw 60) (h2 : ab q1 < pw 60) (h3 : ab p2 < pw 60) (h4 : ab q2 < pw 60) (f1 : FR p1 q1) (f2 : FR p2 q2) (hf : ¬ (ab (p1 * q2) < pw 60 ∧ ab (p2 * q1) < pw 60 ∧ ab (p1 * q2 - p2 * q1) < pw 60 ∧ ab (q1 * q2) < pw 60)) :
    Calls Tryz.prog 37 #[.agg #[.int .i64 s1, .slice A1 n1 d1, .int .i64 s2, .slice A2 n2 d2], .agg #[.int .i64 s3, .slice A3 n3 d3, .int .i64 s4, .slice A4 n4 d4]] w fun e w' => e = .returned (.tuple #[.agg #[.int .i64 0, .slice none 0 0, .int .i64 0, .slice none 0 0], .int .i64 6]) ∧ Below w.heap.size w w' := by
  have HI := Lib.hid (fun (w' : World) (hw : Below w.heap.size w w') => combine_sub_full s1 s2 s3 s4 A1 A2 A3 A4 n1 d1 n2 d2 n3 d3 n4 d4 p1 q1 p2 q2 w' (ha.later hw) (hb.later hw) h1 h2 h3 h4 f1 f2 hf)
  clear h1 h2 h3 h4 f1 f2 hf
  go_enter Tryz.func37, Tryz.ntmps37
  go_wp2_with fail
  obtain ⟨W0, hW, hbx, ka, kb, kR⟩ := fboxes2 ha hb
  rw [← hW]
  clear hW ha hb
  have hT := hbx
  have za0 := ka.c0
  have za1 := ka.c1
  have za2 := ka.c2
  have za3 := ka.c3
  have zb0 := kb.c0
  have zb1 := kb.c1
  have zb2 := kb.c2
  have zb3 := kb.c3
  go_wp2_with fail
  clear za0 za1 za2 za3
  clear zb0 zb1 zb2 zb3
  (with_reducible refine (HI.out _ hT).mono ?_)
  rintro e u3 ⟨rfl, hb9⟩
  have hT := hT.trans (hb9.mono hT.size)
  have kR := kR.below hb9
  clear ka kb HI
  have gR : w.heap.size ≤ w.heap.size + 1 + 1 := by omega
  have r0 := kR.blk.cell 0
  have r1 := kR.blk.cell 1
  have r2 := kR.blk.cell 2
  have r3 := kR.blk.cell 3
  have q0' := kR.blk.frozen 0
  have q1' := kR.blk.frozen 1
  have q2' := kR.blk.frozen 2
  have q3' := kR.blk.frozen 3
  simp at r0 r1 r2 r3
  have hbs := kR.blk.set4 (.int .i64 0) (.slice none 0 0) (.int .i64 0) (.slice none 0 0)
  have x0 := hbs.cell 0
  have x1 := hbs.cell 1
  have x2 := hbs.cell 2
  have x3 := hbs.cell 3
  simp at x0 x1 x2 x3
  go_wp2_with fail
  refine bodyPost_ret (v := .tuple #[.agg #[.int .i64 0, .slice none 0 0, .int .i64 0, .slice none 0 0], .int .i64 6]) (by simp [results, Tryz.results37, go_sem, x0, x1, x2, x3]) rfl ?_
  exact ⟨rfl, below_st4 hT gR _ _ _ _⟩

end Go.Proofs.YtkjpfnbdlbnbkaaGreatDoor
