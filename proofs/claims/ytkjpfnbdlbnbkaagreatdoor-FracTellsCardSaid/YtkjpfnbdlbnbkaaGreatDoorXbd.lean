/- Walks: the reference's Mul and Div of right fractions. Printed by a program (rfops.py). Walks: the reference's Add and Sub of right fractions. Printed by a program (rfops.py). Walks: the reference's below and Compare. Printed by a program (rfmore.py). -/
import Derived.Test.YtkjpfnbdlbnbkaaGreatDoorXbc
import Derived.Test.YtkjpfnbdlbnbkaaGreatDoorXaq
import Derived.IntWalk

namespace Go.Proofs.YtkjpfnbdlbnbkaaGreatDoor
open Go.RowKit

set_option maxRecDepth 100000 in
set_option maxHeartbeats 8000000 in
theorem rfmul_0 (s1 s2 s3 s4 : Int) (A1 A2 A3 A4 : Option Addr) (n1 d1 n2 d2 n3 d3 n4 d4 : Nat) (p1 q1 p2 q2 : Int) (w : World) (ha : FV w w.heap.size s1 A1 n1 d1 s2 A2 n2 d2 p1 q1) (hb : FV w w.heap.size s3 A3 n3 d3 s4 A4 n4 d4 p2 q2) (h1 : ab p1 < pw 60) (h2 : ab q1 < pw 60) (h3 : ab p2 < pw 60) (h4 : ab q2 < pw 60) (r1 : FR p1 q1) (r2 : FR p2 q2)  (f0 : ¬ ab (p1 * p2) < pw 60) :
    Calls Tryz.prog 41 #[.agg #[.int .i64 s1, .slice A1 n1 d1, .int .i64 s2, .slice A2 n2 d2], .agg #[.int .i64 s3, .slice A3 n3 d3, .int .i64 s4, .slice A4 n4 d4]] w fun e w' => e = .returned (.tuple #[.agg #[.int .i64 0, .slice none 0 0, .int .i64 0, .slice none 0 0], .int .i64 6]) ∧ Below w.heap.size w w' := by
  have H1 := Lib.hid h1; clear h1
  have H2 := Lib.hid h2; clear h2
  have H3 := Lib.hid h3; clear h3
  have H4 := Lib.hid h4; clear h4
  have F1 := Lib.hid r1; clear r1
  have F2 := Lib.hid r2; clear r2
  have G0 := Lib.hid f0; clear f0
  go_enter Tryz.func41, Tryz.ntmps41
  go_wp2_with fail
  obtain ⟨W0, hW, hbx, ka, kb, kR⟩ := fboxes2 ha hb
  rw [← hW]
  clear hW ha hb
  have hT := hbx
  have zka0 := ka.c0
  have zka1 := ka.c1
  have zka2 := ka.c2
  have zka3 := ka.c3
  go_wp2_with fail
  clear zka0 zka1 zka2 zka3
  (with_reducible refine (rfright_yes _ ka.fv H1.out H2.out F1.out).mono ?_)
  rintro e u1 ⟨rfl, hb9⟩
  replace hT := hT.trans (hb9.mono hT.size)
  replace ka := ka.below hb9
  replace kb := kb.below hb9
  replace kR := kR.below hb9
  have zkb0 := kb.c0
  have zkb1 := kb.c1
  have zkb2 := kb.c2
  have zkb3 := kb.c3
  go_wp2_with fail
  clear zkb0 zkb1 zkb2 zkb3
  (with_reducible refine (rfright_yes _ kb.fv H3.out H4.out F2.out).mono ?_)
  rintro e u2 ⟨rfl, hb9⟩
  replace hT := hT.trans (hb9.mono hT.size)
  replace ka := ka.below hb9
  replace kb := kb.below hb9
  replace kR := kR.below hb9
  have zka0 := ka.c0
  have zka1 := ka.c1
  have zkb0 := kb.c0
  have zkb1 := kb.c1
  go_wp2_with fail
  clear zka0 zka1 zkb0 zkb1
  (with_reducible refine (rmulb_any _ ka.fv.a kb.fv.a H1.out H3.out).mono ?_)
  rintro e v0 ⟨rr0, rfl, hr0, hb9⟩
  replace hT := hT.trans (hb9.mono hT.size)
  replace ka := ka.below hb9
  replace kb := kb.below hb9
  replace kR := kR.below hb9
  rw [show fite (p1 * p2) = 6 from if_neg (Int.not_lt.2 G0.out)]
  obtain ⟨x0, X0, y0, Y0, rfl⟩ := hr0.form
  obtain ⟨W1, hW, hbx, k0⟩ := box1 hr0
  have kaw := ka.below hbx
  have zka2 := kaw.c2
  have zka3 := kaw.c3
  have kbw := kb.below hbx
  have zkb2 := kbw.c2
  have zkb3 := kbw.c3
  rw [hW] at zka2 zka3 zkb2 zkb3
  go_wp2_with fail
  clear zka2 zka3 zkb2 zkb3
  clear kaw
  clear kbw
  rw [← hW]
  clear hW
  replace hT := hT.trans (hbx.mono hT.size)
  replace ka := ka.below hbx
  replace kb := kb.below hbx
  replace kR := kR.below hbx
  clear hr0
  (with_reducible refine (rmulb_any _ ka.fv.b kb.fv.b H2.out H4.out).mono ?_)
  rintro e v1 ⟨rr1, rfl, hr1, hb9⟩
  replace hT := hT.trans (hb9.mono hT.size)
  replace ka := ka.below hb9
  replace kb := kb.below hb9
  replace kR := kR.below hb9
  replace k0 := k0.below hb9
  obtain ⟨E1, hE1⟩ : ∃ E, fite (q1 * q2) = E := ⟨_, rfl⟩
  rw [hE1]
  clear hE1
  obtain ⟨x1, X1, y1, Y1, rfl⟩ := hr1.form
  obtain ⟨W2, hW, hbx, k1⟩ := box1 hr1
  have k0w := k0.below hbx
  have zk00 := k0w.c0
  have zk01 := k0w.c1
  have zk10 := k1.c0
  have zk11 := k1.c1
  rw [hW] at zk00 zk01 zk10 zk11
  go_wp2_with fail
  clear zk00 zk01 zk10 zk11
  clear k0w
  rw [← hW]
  clear hW
  replace hT := hT.trans (hbx.mono hT.size)
  replace ka := ka.below hbx
  replace kb := kb.below hbx
  replace kR := kR.below hbx
  replace k0 := k0.below hbx
  clear hr1
  have hlt := kR.blk.lt
  (with_reducible refine (rmade_bad _ _ _ _ _ _ _ _ _ _ _ k0.bv k1.bv).mono ?_)
  rintro e u3 ⟨rfl, hb9⟩
  replace hT := hT.trans (hb9.mono hT.size)
  replace kR := kR.below hb9
  clear ka kb k0 k1
  have gR : w.heap.size ≤ w.heap.size + 1 + 1 := by omega
  have r0 := kR.blk.cell 0
  have r1 := kR.blk.cell 1
  have r2 := kR.blk.cell 2
  have r3 := kR.blk.cell 3
  have q0' := kR.blk.frozen 0
  have q1' := kR.blk.frozen 1
  have q2' := kR.blk.frozen 2
  have q3' := kR.blk.frozen 3
  simp at r0 r1 r2 r3
  have hbs := kR.blk.set4 (.int .i64 0) (.slice none 0 0) (.int .i64 0) (.slice none 0 0)
  have x0 := hbs.cell 0
  have x1 := hbs.cell 1
  have x2 := hbs.cell 2
  have x3 := hbs.cell 3
  simp at x0 x1 x2 x3
  go_wp2_with fail
  refine bodyPost_ret (v := .tuple #[.agg #[.int .i64 0, .slice none 0 0, .int .i64 0, .slice none 0 0], .int .i64 6]) (by simp [results, Tryz.results41, go_sem, x0, x1, x2, x3]) rfl ?_
  exact ⟨rfl, below_st4 hT gR _ _ _ _⟩

set_option maxRecDepth 100000 in
set_option maxHeartbeats 8000000 in
theorem rfmul_1 (s1 s2 s3 s4 : Int) (A1 A2 A3 A4 : Option Addr) (n1 d1 n2 d2 n3 d3 n4 d4 : Nat) (p1 q1 p2 q2 : Int) (w : World) (ha : FV w w.heap.size s1 A1 n1 d1 s2 A2 n2 d2 p1 q1) (hb : FV w w.heap.size s3 A3 n3 d3 s4 A4 n4 d4 p2 q2) (h1 : ab p1 < pw 60) (h2 : ab q1 < pw 60) (h3 : ab p2 < pw 60) (h4 : ab q2 < pw 60) (r1 : FR p1 q1) (r2 : FR p2 q2) (f0 : ab (p1 * p2) < pw 60) (f1 : ¬ ab (q1 * q2) < pw 60) :
    Calls Tryz.prog 41 #[.agg #[.int .i64 s1, .slice A1 n1 d1, .int .i64 s2, .slice A2 n2 d2], .agg #[.int .i64 s3, .slice A3 n3 d3, .int .i64 s4, .slice A4 n4 d4]] w fun e w' => e = .returned (.tuple #[.agg #[.int .i64 0, .slice none 0 0, .int .i64 0, .slice none 0 0], .int .i64 6]) ∧ Below w.heap.size w w' := by
  have H1 := Lib.hid h1; clear h1
  have H2 := Lib.hid h2; clear h2
  have H3 := Lib.hid h3; clear h3
  have H4 := Lib.hid h4; clear h4
  have F1 := Lib.hid r1; clear r1
  have F2 := Lib.hid r2; clear r2
  have G0 := Lib.hid f0; clear f0
  have G1 := Lib.hid f1; clear f1
  go_enter Tryz.func41, Tryz.ntmps41
  go_wp2_with fail
  obtain ⟨W0, hW, hbx, ka, kb, kR⟩ := fboxes2 ha hb
  rw [← hW]
  clear hW ha hb
  have hT := hbx
  have zka0 := ka.c0
  have zka1 := ka.c1
  have zka2 := ka.c2
  have zka3 := ka.c3
  go_wp2_with fail
  clear zka0 zka1 zka2 zka3
  (with_reducible refine (rfright_yes _ ka.fv H1.out H2.out F1.out).mono ?_)
  rintro e u1 ⟨rfl, hb9⟩
  replace hT := hT.trans (hb9.mono hT.size)
  replace ka := ka.below hb9
  replace kb := kb.below hb9
  replace kR := kR.below hb9
  have zkb0 := kb.c0
  have zkb1 := kb.c1
  have zkb2 := kb.c2
  have zkb3 := kb.c3
  go_wp2_with fail
  clear zkb0 zkb1 zkb2 zkb3
  (with_reducible refine (rfright_yes _ kb.fv H3.out H4.out F2.out).mono ?_)
  rintro e u2 ⟨rfl, hb9⟩
  replace hT := hT.trans (hb9.mono hT.size)
  replace ka := ka.below hb9
  replace kb := kb.below hb9
  replace kR := kR.below hb9
  have zka0 := ka.c0
  have zka1 := ka.c1
  have zkb0 := kb.c0
  have zkb1 := kb.c1
  go_wp2_with fail
  clear zka0 zka1 zkb0 zkb1
  (with_reducible refine (rmulb_any _ ka.fv.a kb.fv.a H1.out H3.out).mono ?_)
  rintro e v0 ⟨rr0, rfl, hr0, hb9⟩
  replace hT := hT.trans (hb9.mono hT.size)
  replace ka := ka.below hb9
  replace kb := kb.below hb9
  replace kR := kR.below hb9
  rw [(fits G0.out).1]
  rw [(fits G0.out).2] at hr0
  obtain ⟨x0, X0, y0, Y0, rfl⟩ := hr0.form
  obtain ⟨W1, hW, hbx, k0⟩ := box1 hr0
  have kaw := ka.below hbx
  have zka2 := kaw.c2
  have zka3 := kaw.c3
  have kbw := kb.below hbx
  have zkb2 := kbw.c2
  have zkb3 := kbw.c3
  rw [hW] at zka2 zka3 zkb2 zkb3
  go_wp2_with fail
  clear zka2 zka3 zkb2 zkb3
  clear kaw
  clear kbw
  rw [← hW]
  clear hW
  replace hT := hT.trans (hbx.mono hT.size)
  replace ka := ka.below hbx
  replace kb := kb.below hbx
  replace kR := kR.below hbx
  clear hr0
  (with_reducible refine (rmulb_any _ ka.fv.b kb.fv.b H2.out H4.out).mono ?_)
  rintro e v1 ⟨rr1, rfl, hr1, hb9⟩
  replace hT := hT.trans (hb9.mono hT.size)
  replace ka := ka.below hb9
  replace kb := kb.below hb9
  replace kR := kR.below hb9
  replace k0 := k0.below hb9
  rw [show fite (q1 * q2) = 6 from if_neg (Int.not_lt.2 G1.out)]
  obtain ⟨x1, X1, y1, Y1, rfl⟩ := hr1.form
  obtain ⟨W2, hW, hbx, k1⟩ := box1 hr1
  have k0w := k0.below hbx
  have zk00 := k0w.c0
  have zk01 := k0w.c1
  have zk10 := k1.c0
  have zk11 := k1.c1
  rw [hW] at zk00 zk01 zk10 zk11
  go_wp2_with fail
  clear zk00 zk01 zk10 zk11
  clear k0w
  rw [← hW]
  clear hW
  replace hT := hT.trans (hbx.mono hT.size)
  replace ka := ka.below hbx
  replace kb := kb.below hbx
  replace kR := kR.below hbx
  replace k0 := k0.below hbx
  clear hr1
  have hlt := kR.blk.lt
  (with_reducible refine (rmade_bad _ _ _ _ _ _ _ _ _ _ _ k0.bv k1.bv).mono ?_)
  rintro e u3 ⟨rfl, hb9⟩
  replace hT := hT.trans (hb9.mono hT.size)
  replace kR := kR.below hb9
  clear ka kb k0 k1
  have gR : w.heap.size ≤ w.heap.size + 1 + 1 := by omega
  have r0 := kR.blk.cell 0
  have r1 := kR.blk.cell 1
  have r2 := kR.blk.cell 2
  have r3 := kR.blk.cell 3
  have q0' := kR.blk.frozen 0
  have q1' := kR.blk.frozen 1
  have q2' := kR.blk.frozen 2
  have q3' := kR.blk.frozen 3
  simp at r0 r1 r2 r3
  have hbs := kR.blk.set4 (.int .i64 0) (.slice none 0 0) (.int .i64 0) (.slice none 0 0)
  have x0 := hbs.cell 0
  have x1 := hbs.cell 1
  have x2 := hbs.cell 2
  have x3 := hbs.cell 3
  simp at x0 x1 x2 x3
  go_wp2_with fail
  refine bodyPost_ret (v := .tuple #[.agg #[.int .i64 0, .slice none 0 0, .int .i64 0, .slice none 0 0], .int .i64 6]) (by simp [results, Tryz.results41, go_sem, x0, x1, x2, x3]) rfl ?_
  exact ⟨rfl, below_st4 hT gR _ _ _ _⟩

set_option maxRecDepth 100000 in
set_option maxHeartbeats 8000000 in
theorem rfmul_fit (s1 s2 s3 s4 : Int) (A1 A2 A3 A4 : Option Addr) (n1 d1 n2 d2 n3 d3 n4 d4 : Nat) (p1 q1 p2 q2 : Int) (w : World) (ha : FV w w.heap.size s1 A1 n1 d1 s2 A2 n2 d2 p1 q1) (hb : FV w w.heap.size s3 A3 n3 d3 s4 A4 n4 d4 p2 q2) (h1 : ab p1 < pw 60) (h2 : ab q1 < pw 60) (h3 : ab p2 < pw 60) (h4 : ab q2 < pw 60) (r1 : FR p1 q1) (r2 : FR p2 q2) (f0 : ab (p1 * p2) < pw 60) (f1 : ab (q1 * q2) < pw 60) :
    Calls Tryz.prog 41 #[.agg #[.int .i64 s1, .slice A1 n1 d1, .int .i64 s2, .slice A2 n2 d2], .agg #[.int .i64 s3, .slice A3 n3 d3, .int .i64 s4, .slice A4 n4 d4]] w (NewP (p1 * p2) (q1 * q2) w) := by
  have H1 := Lib.hid h1; clear h1
  have H2 := Lib.hid h2; clear h2
  have H3 := Lib.hid h3; clear h3
  have H4 := Lib.hid h4; clear h4
  have F1 := Lib.hid r1; clear r1
  have F2 := Lib.hid r2; clear r2
  have G0 := Lib.hid f0; clear f0
  have G1 := Lib.hid f1; clear f1
  unfold NewP
  obtain ⟨E, hE⟩ : ∃ E, newE (q1 * q2) = E := ⟨_, rfl⟩
  obtain ⟨P, hP⟩ : ∃ E, newN (p1 * p2) (q1 * q2) = E := ⟨_, rfl⟩
  obtain ⟨Q, hQ⟩ : ∃ E, newD (p1 * p2) (q1 * q2) = E := ⟨_, rfl⟩
  rw [hE, hP, hQ]
  have HE := Lib.hid hE; clear hE
  have HP := Lib.hid hP; clear hP
  have HQ := Lib.hid hQ; clear hQ
  go_enter Tryz.func41, Tryz.ntmps41
  go_wp2_with fail
  obtain ⟨W0, hW, hbx, ka, kb, kR⟩ := fboxes2 ha hb
  rw [← hW]
  clear hW ha hb
  have hT := hbx
  have zka0 := ka.c0
  have zka1 := ka.c1
  have zka2 := ka.c2
  have zka3 := ka.c3
  go_wp2_with fail
  clear zka0 zka1 zka2 zka3
  (with_reducible refine (rfright_yes _ ka.fv H1.out H2.out F1.out).mono ?_)
  rintro e u1 ⟨rfl, hb9⟩
  replace hT := hT.trans (hb9.mono hT.size)
  replace ka := ka.below hb9
  replace kb := kb.below hb9
  replace kR := kR.below hb9
  have zkb0 := kb.c0
  have zkb1 := kb.c1
  have zkb2 := kb.c2
  have zkb3 := kb.c3
  go_wp2_with fail
  clear zkb0 zkb1 zkb2 zkb3
  (with_reducible refine (rfright_yes _ kb.fv H3.out H4.out F2.out).mono ?_)
  rintro e u2 ⟨rfl, hb9⟩
  replace hT := hT.trans (hb9.mono hT.size)
  replace ka := ka.below hb9
  replace kb := kb.below hb9
  replace kR := kR.below hb9
  have zka0 := ka.c0
  have zka1 := ka.c1
  have zkb0 := kb.c0
  have zkb1 := kb.c1
  go_wp2_with fail
  clear zka0 zka1 zkb0 zkb1
  (with_reducible refine (rmulb_any _ ka.fv.a kb.fv.a H1.out H3.out).mono ?_)
  rintro e v0 ⟨rr0, rfl, hr0, hb9⟩
  replace hT := hT.trans (hb9.mono hT.size)
  replace ka := ka.below hb9
  replace kb := kb.below hb9
  replace kR := kR.below hb9
  rw [(fits G0.out).1]
  rw [(fits G0.out).2] at hr0
  obtain ⟨x0, X0, y0, Y0, rfl⟩ := hr0.form
  obtain ⟨W1, hW, hbx, k0⟩ := box1 hr0
  have kaw := ka.below hbx
  have zka2 := kaw.c2
  have zka3 := kaw.c3
  have kbw := kb.below hbx
  have zkb2 := kbw.c2
  have zkb3 := kbw.c3
  rw [hW] at zka2 zka3 zkb2 zkb3
  go_wp2_with fail
  clear zka2 zka3 zkb2 zkb3
  clear kaw
  clear kbw
  rw [← hW]
  clear hW
  replace hT := hT.trans (hbx.mono hT.size)
  replace ka := ka.below hbx
  replace kb := kb.below hbx
  replace kR := kR.below hbx
  clear hr0
  (with_reducible refine (rmulb_any _ ka.fv.b kb.fv.b H2.out H4.out).mono ?_)
  rintro e v1 ⟨rr1, rfl, hr1, hb9⟩
  replace hT := hT.trans (hb9.mono hT.size)
  replace ka := ka.below hb9
  replace kb := kb.below hb9
  replace kR := kR.below hb9
  replace k0 := k0.below hb9
  rw [(fits G1.out).1]
  rw [(fits G1.out).2] at hr1
  obtain ⟨x1, X1, y1, Y1, rfl⟩ := hr1.form
  obtain ⟨W2, hW, hbx, k1⟩ := box1 hr1
  have k0w := k0.below hbx
  have zk00 := k0w.c0
  have zk01 := k0w.c1
  have zk10 := k1.c0
  have zk11 := k1.c1
  rw [hW] at zk00 zk01 zk10 zk11
  go_wp2_with fail
  clear zk00 zk01 zk10 zk11
  clear k0w
  rw [← hW]
  clear hW
  replace hT := hT.trans (hbx.mono hT.size)
  replace ka := ka.below hbx
  replace kb := kb.below hbx
  replace kR := kR.below hbx
  replace k0 := k0.below hbx
  clear hr1
  have hlt := kR.blk.lt
  (with_reducible refine (rmade_ok _ _ _ _ _ _ _ _ _ _ _ k0.bv k1.bv G0.out G1.out).mono ?_)
  rintro e u3 ⟨rr, rfl, hrr, hb9⟩
  replace hT := hT.trans (hb9.mono hT.size)
  replace kR := kR.below hb9
  clear ka kb k0 k1
  rw [HP.out, HQ.out] at hrr
  rw [HE.out]
  obtain ⟨t1, C1, m1, e1, t2, C2, m2, e2, rfl, g1, g2⟩ := hrr
  have gR : w.heap.size ≤ w.heap.size + 1 + 1 := by omega
  have r0 := kR.blk.cell 0
  have r1 := kR.blk.cell 1
  have r2 := kR.blk.cell 2
  have r3 := kR.blk.cell 3
  have q0' := kR.blk.frozen 0
  have q1' := kR.blk.frozen 1
  have q2' := kR.blk.frozen 2
  have q3' := kR.blk.frozen 3
  simp at r0 r1 r2 r3
  have hbs := kR.blk.set4 (.int .i64 t1) (.slice C1 m1 e1) (.int .i64 t2) (.slice C2 m2 e2)
  have x0 := hbs.cell 0
  have x1 := hbs.cell 1
  have x2 := hbs.cell 2
  have x3 := hbs.cell 3
  simp at x0 x1 x2 x3
  go_wp2_with fail
  refine bodyPost_ret (v := .tuple #[.agg #[.int .i64 t1, .slice C1 m1 e1, .int .i64 t2, .slice C2 m2 e2], .int .i64 E]) (by simp [results, Tryz.results41, go_sem, x0, x1, x2, x3]) rfl ?_
  exact ⟨_, rfl, FO.mk2 ((g1.far4 hlt _ _ _ _).mono (by omega)) ((g2.far4 hlt _ _ _ _).mono (by omega)), below_st4 hT gR _ _ _ _⟩

set_option maxRecDepth 100000 in
set_option maxHeartbeats 8000000 in
theorem rfdiv_0 (s1 s2 s3 s4 : Int) (A1 A2 A3 A4 : Option Addr) (n1 d1 n2 d2 n3 d3 n4 d4 : Nat) (p1 q1 p2 q2 : Int) (w : World) (ha : FV w w.heap.size s1 A1 n1 d1 s2 A2 n2 d2 p1 q1) (hb : FV w w.heap.size s3 A3 n3 d3 s4 A4 n4 d4 p2 q2) (h1 : ab p1 < pw 60) (h2 : ab q1 < pw 60) (h3 : ab p2 < pw 60) (h4 : ab q2 < pw 60) (r1 : FR p1 q1) (r2 : FR p2 q2) (hs3 : ¬ p2 = 0)  (f0 : ¬ ab (p1 * q2) < pw 60) :
    Calls Tryz.prog 43 #[.agg #[.int .i64 s1, .slice A1 n1 d1, .int .i64 s2, .slice A2 n2 d2], .agg #[.int .i64 s3, .slice A3 n3 d3, .int .i64 s4, .slice A4 n4 d4]] w fun e w' => e = .returned (.tuple #[.agg #[.int .i64 0, .slice none 0 0, .int .i64 0, .slice none 0 0], .int .i64 6]) ∧ Below w.heap.size w w' := by
  have H1 := Lib.hid h1; clear h1
  have H2 := Lib.hid h2; clear h2
  have H3 := Lib.hid h3; clear h3
  have H4 := Lib.hid h4; clear h4
  have F1 := Lib.hid r1; clear r1
  have F2 := Lib.hid r2; clear r2
  have G0 := Lib.hid f0; clear f0
  have hs0 : (s3 == 0) = false := by
    rw [(bv_sv hb.a).2.1, beq_eq_false_iff_ne]
    exact fun h => hs3 (sgn_eq_zero h)
  clear hs3
  go_enter Tryz.func43, Tryz.ntmps43
  go_wp2_with fail
  obtain ⟨W0, hW, hbx, ka, kb, kR⟩ := fboxes2 ha hb
  rw [← hW]
  clear hW ha hb
  have hT := hbx
  have zka0 := ka.c0
  have zka1 := ka.c1
  have zka2 := ka.c2
  have zka3 := ka.c3
  go_wp2_with fail
  clear zka0 zka1 zka2 zka3
  (with_reducible refine (rfright_yes _ ka.fv H1.out H2.out F1.out).mono ?_)
  rintro e u1 ⟨rfl, hb9⟩
  replace hT := hT.trans (hb9.mono hT.size)
  replace ka := ka.below hb9
  replace kb := kb.below hb9
  replace kR := kR.below hb9
  have zkb0 := kb.c0
  have zkb1 := kb.c1
  have zkb2 := kb.c2
  have zkb3 := kb.c3
  go_wp2_with fail
  clear zkb0 zkb1 zkb2 zkb3
  (with_reducible refine (rfright_yes _ kb.fv H3.out H4.out F2.out).mono ?_)
  rintro e u2 ⟨rfl, hb9⟩
  replace hT := hT.trans (hb9.mono hT.size)
  replace ka := ka.below hb9
  replace kb := kb.below hb9
  replace kR := kR.below hb9
  have zka0 := ka.c0
  have zka1 := ka.c1
  have zkb2 := kb.c2
  have zkb3 := kb.c3
  have zkb0 := kb.c0
  go_wp2_with fail
  clear zka0 zka1 zkb2 zkb3 zkb0
  (with_reducible refine (rmulb_any _ ka.fv.a kb.fv.b H1.out H4.out).mono ?_)
  rintro e v0 ⟨rr0, rfl, hr0, hb9⟩
  replace hT := hT.trans (hb9.mono hT.size)
  replace ka := ka.below hb9
  replace kb := kb.below hb9
  replace kR := kR.below hb9
  rw [show fite (p1 * q2) = 6 from if_neg (Int.not_lt.2 G0.out)]
  obtain ⟨x0, X0, y0, Y0, rfl⟩ := hr0.form
  obtain ⟨W1, hW, hbx, k0⟩ := box1 hr0
  have kaw := ka.below hbx
  have zka2 := kaw.c2
  have zka3 := kaw.c3
  have kbw := kb.below hbx
  have zkb0 := kbw.c0
  have zkb1 := kbw.c1
  rw [hW] at zka2 zka3 zkb0 zkb1
  go_wp2_with fail
  clear zka2 zka3 zkb0 zkb1
  clear kaw
  clear kbw
  rw [← hW]
  clear hW
  replace hT := hT.trans (hbx.mono hT.size)
  replace ka := ka.below hbx
  replace kb := kb.below hbx
  replace kR := kR.below hbx
  clear hr0
  (with_reducible refine (rmulb_any _ ka.fv.b kb.fv.a H2.out H3.out).mono ?_)
  rintro e v1 ⟨rr1, rfl, hr1, hb9⟩
  replace hT := hT.trans (hb9.mono hT.size)
  replace ka := ka.below hb9
  replace kb := kb.below hb9
  replace kR := kR.below hb9
  replace k0 := k0.below hb9
  obtain ⟨E1, hE1⟩ : ∃ E, fite (q1 * p2) = E := ⟨_, rfl⟩
  rw [hE1]
  clear hE1
  obtain ⟨x1, X1, y1, Y1, rfl⟩ := hr1.form
  obtain ⟨W2, hW, hbx, k1⟩ := box1 hr1
  have k0w := k0.below hbx
  have zk00 := k0w.c0
  have zk01 := k0w.c1
  have zk10 := k1.c0
  have zk11 := k1.c1
  rw [hW] at zk00 zk01 zk10 zk11
  go_wp2_with fail
  clear zk00 zk01 zk10 zk11
  clear k0w
  rw [← hW]
  clear hW
  replace hT := hT.trans (hbx.mono hT.size)
  replace ka := ka.below hbx
  replace kb := kb.below hbx
  replace kR := kR.below hbx
  replace k0 := k0.below hbx
  clear hr1
  have hlt := kR.blk.lt
  (with_reducible refine (rmade_bad _ _ _ _ _ _ _ _ _ _ _ k0.bv k1.bv).mono ?_)
  rintro e u3 ⟨rfl, hb9⟩
  replace hT := hT.trans (hb9.mono hT.size)
  replace kR := kR.below hb9
  clear ka kb k0 k1
  have gR : w.heap.size ≤ w.heap.size + 1 + 1 := by omega
  have r0 := kR.blk.cell 0
  have r1 := kR.blk.cell 1
  have r2 := kR.blk.cell 2
  have r3 := kR.blk.cell 3
  have q0' := kR.blk.frozen 0
  have q1' := kR.blk.frozen 1
  have q2' := kR.blk.frozen 2
  have q3' := kR.blk.frozen 3
  simp at r0 r1 r2 r3
  have hbs := kR.blk.set4 (.int .i64 0) (.slice none 0 0) (.int .i64 0) (.slice none 0 0)
  have x0 := hbs.cell 0
  have x1 := hbs.cell 1
  have x2 := hbs.cell 2
  have x3 := hbs.cell 3
  simp at x0 x1 x2 x3
  go_wp2_with fail
  refine bodyPost_ret (v := .tuple #[.agg #[.int .i64 0, .slice none 0 0, .int .i64 0, .slice none 0 0], .int .i64 6]) (by simp [results, Tryz.results43, go_sem, x0, x1, x2, x3]) rfl ?_
  exact ⟨rfl, below_st4 hT gR _ _ _ _⟩

set_option maxRecDepth 100000 in
set_option maxHeartbeats 8000000 in
theorem rfdiv_1 (s1 s2 s3 s4 : Int) (A1 A2 A3 A4 : Option Addr) (n1 d1 n2 d2 n3 d3 n4 d4 : Nat) (p1 q1 p2 q2 : Int) (w : World) (ha : FV w w.heap.size s1 A1 n1 d1 s2 A2 n2 d2 p1 q1) (hb : FV w w.heap.size s3 A3 n3 d3 s4 A4 n4 d4 p2 q2) (h1 : ab p1 < pw 60) (h2 : ab q1 < pw 60) (h3 : ab p2 < pw 60) (h4 : ab q2 < pw 60) (r1 : FR p1 q1) (r2 : FR p2 q2) (hs3 : ¬ p2 = 0) (f0 : ab (p1 * q2) < pw 60) (f1 : ¬ ab (q1 * p2) < pw 60) :
    Calls Tryz.prog 43 #[.agg #[.int .i64 s1, .slice A1 n1 d1, .int .i64 s2, .slice A2 n2 d2], .agg #[.int .i64 s3, .slice A3 n3 d3, .int .i64 s4, .slice A4 n4 d4]] w fun e w' => e = .returned (.tuple #[.agg #[.int .i64 0, .slice none 0 0, .int .i64 0, .slice none 0 0], .int .i64 6]) ∧ Below w.heap.size w w' := by
  have H1 := Lib.hid h1; clear h1
  have H2 := Lib.hid h2; clear h2
  have H3 := Lib.hid h3; clear h3
  have H4 := Lib.hid h4; clear h4
  have F1 := Lib.hid r1; clear r1
  have F2 := Lib.hid r2; clear r2
  have G0 := Lib.hid f0; clear f0
  have G1 := Lib.hid f1; clear f1
  have hs0 : (s3 == 0) = false := by
    rw [(bv_sv hb.a).2.1, beq_eq_false_iff_ne]
    exact fun h => hs3 (sgn_eq_zero h)
  clear hs3
  go_enter Tryz.func43, Tryz.ntmps43
  go_wp2_with fail
  obtain ⟨W0, hW, hbx, ka, kb, kR⟩ := fboxes2 ha hb
  rw [← hW]
  clear hW ha hb
  have hT := hbx
  have zka0 := ka.c0
  have zka1 := ka.c1
  have zka2 := ka.c2
  have zka3 := ka.c3
  go_wp2_with fail
  clear zka0 zka1 zka2 zka3
  (with_reducible refine (rfright_yes _ ka.fv H1.out H2.out F1.out).mono ?_)
  rintro e u1 ⟨rfl, hb9⟩
  replace hT := hT.trans (hb9.mono hT.size)
  replace ka := ka.below hb9
  replace kb := kb.below hb9
  replace kR := kR.below hb9
  have zkb0 := kb.c0
  have zkb1 := kb.c1
  have zkb2 := kb.c2
  have zkb3 := kb.c3
  go_wp2_with fail
  clear zkb0 zkb1 zkb2 zkb3
  (with_reducible refine (rfright_yes _ kb.fv H3.out H4.out F2.out).mono ?_)
  rintro e u2 ⟨rfl, hb9⟩
  replace hT := hT.trans (hb9.mono hT.size)
  replace ka := ka.below hb9
  replace kb := kb.below hb9
  replace kR := kR.below hb9
  have zka0 := ka.c0
  have zka1 := ka.c1
  have zkb2 := kb.c2
  have zkb3 := kb.c3
  have zkb0 := kb.c0
  go_wp2_with fail
  clear zka0 zka1 zkb2 zkb3 zkb0
  (with_reducible refine (rmulb_any _ ka.fv.a kb.fv.b H1.out H4.out).mono ?_)
  rintro e v0 ⟨rr0, rfl, hr0, hb9⟩
  replace hT := hT.trans (hb9.mono hT.size)
  replace ka := ka.below hb9
  replace kb := kb.below hb9
  replace kR := kR.below hb9
  rw [(fits G0.out).1]
  rw [(fits G0.out).2] at hr0
  obtain ⟨x0, X0, y0, Y0, rfl⟩ := hr0.form
  obtain ⟨W1, hW, hbx, k0⟩ := box1 hr0
  have kaw := ka.below hbx
  have zka2 := kaw.c2
  have zka3 := kaw.c3
  have kbw := kb.below hbx
  have zkb0 := kbw.c0
  have zkb1 := kbw.c1
  rw [hW] at zka2 zka3 zkb0 zkb1
  go_wp2_with fail
  clear zka2 zka3 zkb0 zkb1
  clear kaw
  clear kbw
  rw [← hW]
  clear hW
  replace hT := hT.trans (hbx.mono hT.size)
  replace ka := ka.below hbx
  replace kb := kb.below hbx
  replace kR := kR.below hbx
  clear hr0
  (with_reducible refine (rmulb_any _ ka.fv.b kb.fv.a H2.out H3.out).mono ?_)
  rintro e v1 ⟨rr1, rfl, hr1, hb9⟩
  replace hT := hT.trans (hb9.mono hT.size)
  replace ka := ka.below hb9
  replace kb := kb.below hb9
  replace kR := kR.below hb9
  replace k0 := k0.below hb9
  rw [show fite (q1 * p2) = 6 from if_neg (Int.not_lt.2 G1.out)]
  obtain ⟨x1, X1, y1, Y1, rfl⟩ := hr1.form
  obtain ⟨W2, hW, hbx, k1⟩ := box1 hr1
  have k0w := k0.below hbx
  have zk00 := k0w.c0
  have zk01 := k0w.c1
  have zk10 := k1.c0
  have zk11 := k1.c1
  rw [hW] at zk00 zk01 zk10 zk11
  go_wp2_with fail
  clear zk00 zk01 zk10 zk11
  clear k0w
  rw [← hW]
  clear hW
  replace hT := hT.trans (hbx.mono hT.size)
  replace ka := ka.below hbx
  replace kb := kb.below hbx
  replace kR := kR.below hbx
  replace k0 := k0.below hbx
  clear hr1
  have hlt := kR.blk.lt
  (with_reducible refine (rmade_bad _ _ _ _ _ _ _ _ _ _ _ k0.bv k1.bv).mono ?_)
  rintro e u3 ⟨rfl, hb9⟩
  replace hT := hT.trans (hb9.mono hT.size)
  replace kR := kR.below hb9
  clear ka kb k0 k1
  have gR : w.heap.size ≤ w.heap.size + 1 + 1 := by omega
  have r0 := kR.blk.cell 0
  have r1 := kR.blk.cell 1
  have r2 := kR.blk.cell 2
  have r3 := kR.blk.cell 3
  have q0' := kR.blk.frozen 0
  have q1' := kR.blk.frozen 1
  have q2' := kR.blk.frozen 2
  have q3' := kR.blk.frozen 3
  simp at r0 r1 r2 r3
  have hbs := kR.blk.set4 (.int .i64 0) (.slice none 0 0) (.int .i64 0) (.slice none 0 0)
  have x0 := hbs.cell 0
  have x1 := hbs.cell 1
  have x2 := hbs.cell 2
  have x3 := hbs.cell 3
  simp at x0 x1 x2 x3
  go_wp2_with fail
  refine bodyPost_ret (v := .tuple #[.agg #[.int .i64 0, .slice none 0 0, .int .i64 0, .slice none 0 0], .int .i64 6]) (by simp [results, Tryz.results43, go_sem, x0, x1, x2, x3]) rfl ?_
  exact ⟨rfl, below_st4 hT gR _ _ _ _⟩

set_option maxRecDepth 100000 in
set_option maxHeartbeats 8000000 in
theorem rfdiv_fit (s1 s2 s3 s4 : Int) (A1 A2 A3 A4 : Option Addr) (n1 d1 n2 d2 n3 d3 n4 d4 : Nat) (p1 q1 p2 q2 : Int) (w : World) (ha : FV w w.heap.size s1 A1 n1 d1 s2 A2 n2 d2 p1 q1) (hb : FV w w.heap.size s3 A3 n3 d3 s4 A4 n4 d4 p2 q2) (h1 : ab p1 < pw 60) (h2 : ab q1 < pw 60) (h3 : ab p2 < pw 60) (h4 : ab q2 < pw 60) (r1 : FR p1 q1) (r2 : FR p2 q2) (hs3 : ¬ p2 = 0) (f0 : ab (p1 * q2) < pw 60) (f1 : ab (q1 * p2) < pw 60) :
    Calls Tryz.prog 43 #[.agg #[.int .i64 s1, .slice A1 n1 d1, .int .i64 s2, .slice A2 n2 d2], .agg #[.int .i64 s3, .slice A3 n3 d3, .int .i64 s4, .slice A4 n4 d4]] w (NewP (p1 * q2) (q1 * p2) w) := by
  have H1 := Lib.hid h1; clear h1
  have H2 := Lib.hid h2; clear h2
  have H3 := Lib.hid h3; clear h3
  have H4 := Lib.hid h4; clear h4
  have F1 := Lib.hid r1; clear r1
  have F2 := Lib.hid r2; clear r2
  have G0 := Lib.hid f0; clear f0
  have G1 := Lib.hid f1; clear f1
  unfold NewP
  obtain ⟨E, hE⟩ : ∃ E, newE (q1 * p2) = E := ⟨_, rfl⟩
  obtain ⟨P, hP⟩ : ∃ E, newN (p1 * q2) (q1 * p2) = E := ⟨_, rfl⟩
  obtain ⟨Q, hQ⟩ : ∃ E, newD (p1 * q2) (q1 * p2) = E := ⟨_, rfl⟩
  rw [hE, hP, hQ]
  have HE := Lib.hid hE; clear hE
  have HP := Lib.hid hP; clear hP
  have HQ := Lib.hid hQ; clear hQ
  have hs0 : (s3 == 0) = false := by
    rw [(bv_sv hb.a).2.1, beq_eq_false_iff_ne]
    exact fun h => hs3 (sgn_eq_zero h)
  clear hs3
  go_enter Tryz.func43, Tryz.ntmps43
  go_wp2_with fail
  obtain ⟨W0, hW, hbx, ka, kb, kR⟩ := fboxes2 ha hb
  rw [← hW]
  clear hW ha hb
  have hT := hbx
  have zka0 := ka.c0
  have zka1 := ka.c1
  have zka2 := ka.c2
  have zka3 := ka.c3
  go_wp2_with fail
  clear zka0 zka1 zka2 zka3
  (with_reducible refine (rfright_yes _ ka.fv H1.out H2.out F1.out).mono ?_)
  rintro e u1 ⟨rfl, hb9⟩
  replace hT := hT.trans (hb9.mono hT.size)
  replace ka := ka.below hb9
  replace kb := kb.below hb9
  replace kR := kR.below hb9
  have zkb0 := kb.c0
  have zkb1 := kb.c1
  have zkb2 := kb.c2
  have zkb3 := kb.c3
  go_wp2_with fail
  clear zkb0 zkb1 zkb2 zkb3
  (with_reducible refine (rfright_yes _ kb.fv H3.out H4.out F2.out).mono ?_)
  rintro e u2 ⟨rfl, hb9⟩
  replace hT := hT.trans (hb9.mono hT.size)
  replace ka := ka.below hb9
  replace kb := kb.below hb9
  replace kR := kR.below hb9
  have zka0 := ka.c0
  have zka1 := ka.c1
  have zkb2 := kb.c2
  have zkb3 := kb.c3
  have zkb0 := kb.c0
  go_wp2_with fail
  clear zka0 zka1 zkb2 zkb3 zkb0
  (with_reducible refine (rmulb_any _ ka.fv.a kb.fv.b H1.out H4.out).mono ?_)
  rintro e v0 ⟨rr0, rfl, hr0, hb9⟩
  replace hT := hT.trans (hb9.mono hT.size)
  replace ka := ka.below hb9
  replace kb := kb.below hb9
  replace kR := kR.below hb9
  rw [(fits G0.out).1]
  rw [(fits G0.out).2] at hr0
  obtain ⟨x0, X0, y0, Y0, rfl⟩ := hr0.form
  obtain ⟨W1, hW, hbx, k0⟩ := box1 hr0
  have kaw := ka.below hbx
  have zka2 := kaw.c2
  have zka3 := kaw.c3
  have kbw := kb.below hbx
  have zkb0 := kbw.c0
  have zkb1 := kbw.c1
  rw [hW] at zka2 zka3 zkb0 zkb1
  go_wp2_with fail
  clear zka2 zka3 zkb0 zkb1
  clear kaw
  clear kbw
  rw [← hW]
  clear hW
  replace hT := hT.trans (hbx.mono hT.size)
  replace ka := ka.below hbx
  replace kb := kb.below hbx
  replace kR := kR.below hbx
  clear hr0
  (with_reducible refine (rmulb_any _ ka.fv.b kb.fv.a H2.out H3.out).mono ?_)
  rintro e v1 ⟨rr1, rfl, hr1, hb9⟩
  replace hT := hT.trans (hb9.mono hT.size)
  replace ka := ka.below hb9
  replace kb := kb.below hb9
  replace kR := kR.below hb9
  replace k0 := k0.below hb9
  rw [(fits G1.out).1]
  rw [(fits G1.out).2] at hr1
  obtain ⟨x1, X1, y1, Y1, rfl⟩ := hr1.form
  obtain ⟨W2, hW, hbx, k1⟩ := box1 hr1
  have k0w := k0.below hbx
  have zk00 := k0w.c0
  have zk01 := k0w.c1
  have zk10 := k1.c0
  have zk11 := k1.c1
  rw [hW] at zk00 zk01 zk10 zk11
  go_wp2_with fail
  clear zk00 zk01 zk10 zk11
  clear k0w
  rw [← hW]
  clear hW
  replace hT := hT.trans (hbx.mono hT.size)
  replace ka := ka.below hbx
  replace kb := kb.below hbx
  replace kR := kR.below hbx
  replace k0 := k0.below hbx
  clear hr1
  have hlt := kR.blk.lt
  (with_reducible refine (rmade_ok _ _ _ _ _ _ _ _ _ _ _ k0.bv k1.bv G0.out G1.out).mono ?_)
  rintro e u3 ⟨rr, rfl, hrr, hb9⟩
  replace hT := hT.trans (hb9.mono hT.size)
  replace kR := kR.below hb9
  clear ka kb k0 k1
  rw [HP.out, HQ.out] at hrr
  rw [HE.out]
  obtain ⟨t1, C1, m1, e1, t2, C2, m2, e2, rfl, g1, g2⟩ := hrr
  have gR : w.heap.size ≤ w.heap.size + 1 + 1 := by omega
  have r0 := kR.blk.cell 0
  have r1 := kR.blk.cell 1
  have r2 := kR.blk.cell 2
  have r3 := kR.blk.cell 3
  have q0' := kR.blk.frozen 0
  have q1' := kR.blk.frozen 1
  have q2' := kR.blk.frozen 2
  have q3' := kR.blk.frozen 3
  simp at r0 r1 r2 r3
  have hbs := kR.blk.set4 (.int .i64 t1) (.slice C1 m1 e1) (.int .i64 t2) (.slice C2 m2 e2)
  have x0 := hbs.cell 0
  have x1 := hbs.cell 1
  have x2 := hbs.cell 2
  have x3 := hbs.cell 3
  simp at x0 x1 x2 x3
  go_wp2_with fail
  refine bodyPost_ret (v := .tuple #[.agg #[.int .i64 t1, .slice C1 m1 e1, .int .i64 t2, .slice C2 m2 e2], .int .i64 E]) (by simp [results, Tryz.results43, go_sem, x0, x1, x2, x3]) rfl ?_
  exact ⟨_, rfl, FO.mk2 ((g1.far4 hlt _ _ _ _).mono (by omega)) ((g2.far4 hlt _ _ _ _).mono (by omega)), below_st4 hT gR _ _ _ _⟩

end Go.Proofs.YtkjpfnbdlbnbkaaGreatDoor

namespace Go.Proofs.YtkjpfnbdlbnbkaaGreatDoor
open Go.RowKit

set_option maxRecDepth 100000 in
set_option maxHeartbeats 8000000 in
theorem rfadd_0 (s1 s2 s3 s4 : Int) (A1 A2 A3 A4 : Option Addr) (n1 d1 n2 d2 n3 d3 n4 d4 : Nat) (p1 q1 p2 q2 : Int) (w : World) (ha : FV w w.heap.size s1 A1 n1 d1 s2 A2 n2 d2 p1 q1) (hb : FV w w.heap.size s3 A3 n3 d3 s4 A4 n4 d4 p2 q2) (h1 : ab p1 < pw 60) (h2 : ab q1 < pw 60) (h3 : ab p2 < pw 60) (h4 : ab q2 < pw 60) (r1 : FR p1 q1) (r2 : FR p2 q2)  (f0 : ¬ ab (p1 * q2) < pw 60) :
    Calls Tryz.prog 36 #[.agg #[.int .i64 s1, .slice A1 n1 d1, .int .i64 s2, .slice A2 n2 d2], .agg #[.int .i64 s3, .slice A3 n3 d3, .int .i64 s4, .slice A4 n4 d4]] w fun e w' => e = .returned (.tuple #[.agg #[.int .i64 0, .slice none 0 0, .int .i64 0, .slice none 0 0], .int .i64 6]) ∧ Below w.heap.size w w' := by
  have H1 := Lib.hid h1; clear h1
  have H2 := Lib.hid h2; clear h2
  have H3 := Lib.hid h3; clear h3
  have H4 := Lib.hid h4; clear h4
  have F1 := Lib.hid r1; clear r1
  have F2 := Lib.hid r2; clear r2
  have G0 := Lib.hid f0; clear f0
  go_enter Tryz.func36, Tryz.ntmps36
  go_wp2_with fail
  obtain ⟨W0, hW, hbx, ka, kb, kR⟩ := fboxes2 ha hb
  rw [← hW]
  clear hW ha hb
  have hT := hbx
  have zka0 := ka.c0
  have zka1 := ka.c1
  have zka2 := ka.c2
  have zka3 := ka.c3
  go_wp2_with fail
  clear zka0 zka1 zka2 zka3
  (with_reducible refine (rfright_yes _ ka.fv H1.out H2.out F1.out).mono ?_)
  rintro e u1 ⟨rfl, hb9⟩
  replace hT := hT.trans (hb9.mono hT.size)
  replace ka := ka.below hb9
  replace kb := kb.below hb9
  replace kR := kR.below hb9
  have zkb0 := kb.c0
  have zkb1 := kb.c1
  have zkb2 := kb.c2
  have zkb3 := kb.c3
  go_wp2_with fail
  clear zkb0 zkb1 zkb2 zkb3
  (with_reducible refine (rfright_yes _ kb.fv H3.out H4.out F2.out).mono ?_)
  rintro e u2 ⟨rfl, hb9⟩
  replace hT := hT.trans (hb9.mono hT.size)
  replace ka := ka.below hb9
  replace kb := kb.below hb9
  replace kR := kR.below hb9
  have zka0 := ka.c0
  have zka1 := ka.c1
  have zkb2 := kb.c2
  have zkb3 := kb.c3
  go_wp2_with fail
  clear zka0 zka1 zkb2 zkb3
  (with_reducible refine (rmulb_any _ ka.fv.a kb.fv.b H1.out H4.out).mono ?_)
  rintro e v0 ⟨rr0, rfl, hr0, hb9⟩
  replace hT := hT.trans (hb9.mono hT.size)
  replace ka := ka.below hb9
  replace kb := kb.below hb9
  replace kR := kR.below hb9
  rw [show fite (p1 * q2) = 6 from if_neg (Int.not_lt.2 G0.out)]
  obtain ⟨x0, X0, y0, Y0, rfl⟩ := hr0.form
  obtain ⟨W1, hW, hbx, k0⟩ := box1 hr0
  have kbw := kb.below hbx
  have zkb0 := kbw.c0
  have zkb1 := kbw.c1
  have kaw := ka.below hbx
  have zka2 := kaw.c2
  have zka3 := kaw.c3
  rw [hW] at zkb0 zkb1 zka2 zka3
  go_wp2_with fail
  clear zkb0 zkb1 zka2 zka3
  clear kbw
  clear kaw
  rw [← hW]
  clear hW
  replace hT := hT.trans (hbx.mono hT.size)
  replace ka := ka.below hbx
  replace kb := kb.below hbx
  replace kR := kR.below hbx
  clear hr0
  (with_reducible refine (rmulb_any _ kb.fv.a ka.fv.b H3.out H2.out).mono ?_)
  rintro e v1 ⟨rr1, rfl, hr1, hb9⟩
  replace hT := hT.trans (hb9.mono hT.size)
  replace ka := ka.below hb9
  replace kb := kb.below hb9
  replace kR := kR.below hb9
  replace k0 := k0.below hb9
  obtain ⟨E1, hE1⟩ : ∃ E, fite (p2 * q1) = E := ⟨_, rfl⟩
  rw [hE1]
  clear hE1
  obtain ⟨x1, X1, y1, Y1, rfl⟩ := hr1.form
  obtain ⟨W2, hW, hbx, k1⟩ := box1 hr1
  have kaw := ka.below hbx
  have zka2 := kaw.c2
  have zka3 := kaw.c3
  have kbw := kb.below hbx
  have zkb2 := kbw.c2
  have zkb3 := kbw.c3
  rw [hW] at zka2 zka3 zkb2 zkb3
  go_wp2_with fail
  clear zka2 zka3 zkb2 zkb3
  clear kaw
  clear kbw
  rw [← hW]
  clear hW
  replace hT := hT.trans (hbx.mono hT.size)
  replace ka := ka.below hbx
  replace kb := kb.below hbx
  replace kR := kR.below hbx
  replace k0 := k0.below hbx
  clear hr1
  (with_reducible refine (rmulb_any _ ka.fv.b kb.fv.b H2.out H4.out).mono ?_)
  rintro e v2 ⟨rr2, rfl, hr2, hb9⟩
  replace hT := hT.trans (hb9.mono hT.size)
  replace ka := ka.below hb9
  replace kb := kb.below hb9
  replace kR := kR.below hb9
  replace k0 := k0.below hb9
  replace k1 := k1.below hb9
  obtain ⟨E2, hE2⟩ : ∃ E, fite (q1 * q2) = E := ⟨_, rfl⟩
  rw [hE2]
  clear hE2
  obtain ⟨x2, X2, y2, Y2, rfl⟩ := hr2.form
  obtain ⟨W3, hW, hbx, k2⟩ := box1 hr2
  have k0w := k0.below hbx
  have zk00 := k0w.c0
  have zk01 := k0w.c1
  have k1w := k1.below hbx
  have zk10 := k1w.c0
  have zk11 := k1w.c1
  rw [hW] at zk00 zk01 zk10 zk11
  go_wp2_with fail
  clear zk00 zk01 zk10 zk11
  clear k0w
  clear k1w
  rw [← hW]
  clear hW
  replace hT := hT.trans (hbx.mono hT.size)
  replace ka := ka.below hbx
  replace kb := kb.below hbx
  replace kR := kR.below hbx
  replace k0 := k0.below hbx
  replace k1 := k1.below hbx
  clear hr2
  (with_reducible refine (raddb_any _ k0.bv k1.bv (fitz_lt (p1 * q2)) (fitz_lt (p2 * q1))).mono ?_)
  rintro e v3 ⟨rr3, rfl, hr3, hb9⟩
  replace hT := hT.trans (hb9.mono hT.size)
  replace ka := ka.below hb9
  replace kb := kb.below hb9
  replace kR := kR.below hb9
  replace k0 := k0.below hb9
  replace k1 := k1.below hb9
  replace k2 := k2.below hb9
  obtain ⟨E3, hE3⟩ : ∃ E, fite (fitz (p1 * q2) + fitz (p2 * q1)) = E := ⟨_, rfl⟩
  rw [hE3]
  clear hE3
  obtain ⟨x3, X3, y3, Y3, rfl⟩ := hr3.form
  obtain ⟨W4, hW, hbx, k3⟩ := box1 hr3
  have k2w := k2.below hbx
  have zk30 := k3.c0
  have zk31 := k3.c1
  have zk20 := k2w.c0
  have zk21 := k2w.c1
  rw [hW] at zk30 zk31 zk20 zk21
  go_wp2_with fail
  clear zk30 zk31 zk20 zk21 k2w
  rw [← hW]
  clear hW
  replace hT := hT.trans (hbx.mono hT.size)
  replace ka := ka.below hbx
  replace kb := kb.below hbx
  replace kR := kR.below hbx
  replace k0 := k0.below hbx
  replace k1 := k1.below hbx
  replace k2 := k2.below hbx
  clear hr3
  have hlt := kR.blk.lt
  (with_reducible refine (rmade_bad _ _ _ _ _ _ _ _ _ _ _ k3.bv k2.bv).mono ?_)
  rintro e u3 ⟨rfl, hb9⟩
  replace hT := hT.trans (hb9.mono hT.size)
  replace kR := kR.below hb9
  clear ka kb k0 k1 k2 k3
  have gR : w.heap.size ≤ w.heap.size + 1 + 1 := by omega
  have r0 := kR.blk.cell 0
  have r1 := kR.blk.cell 1
  have r2 := kR.blk.cell 2
  have r3 := kR.blk.cell 3
  have q0' := kR.blk.frozen 0
  have q1' := kR.blk.frozen 1
  have q2' := kR.blk.frozen 2
  have q3' := kR.blk.frozen 3
  simp at r0 r1 r2 r3
  have hbs := kR.blk.set4 (.int .i64 0) (.slice none 0 0) (.int .i64 0) (.slice none 0 0)
  have x0 := hbs.cell 0
  have x1 := hbs.cell 1
  have x2 := hbs.cell 2
  have x3 := hbs.cell 3
  simp at x0 x1 x2 x3
  go_wp2_with fail
  refine bodyPost_ret (v := .tuple #[.agg #[.int .i64 0, .slice none 0 0, .int .i64 0, .slice none 0 0], .int .i64 6]) (by simp [results, Tryz.results36, go_sem, x0, x1, x2, x3]) rfl ?_
  exact ⟨rfl, below_st4 hT gR _ _ _ _⟩

set_option maxRecDepth 100000 in
set_option maxHeartbeats 8000000 in
theorem rfadd_1 (s1 s2 s3 s4 : Int) (A1 A2 A3 A4 : Option Addr) (n1 d1 n2 d2 n3 d3 n4 d4 : Nat) (p1 q1 p2 q2 : Int) (w : World) (ha : FV w w.heap.size s1 A1 n1 d1 s2 A2 n2 d2 p1 q1) (hb : FV w w.heap.size s3 A3 n3 d3 s4 A4 n4 d4 p2 q2) (h1 : ab p1 < pw 60) (h2 : ab q1 < pw 60) (h3 : ab p2 < pw 60) (h4 : ab q2 < pw 60) (r1 : FR p1 q1) (r2 : FR p2 q2) (f0 : ab (p1 * q2) < pw 60) (f1 : ¬ ab (p2 * q1) < pw 60) :
    Calls Tryz.prog 36 #[.agg #[.int .i64 s1, .slice A1 n1 d1, .int .i64 s2, .slice A2 n2 d2], .agg #[.int .i64 s3, .slice A3 n3 d3, .int .i64 s4, .slice A4 n4 d4]] w fun e w' => e = .returned (.tuple #[.agg #[.int .i64 0, .slice none 0 0, .int .i64 0, .slice none 0 0], .int .i64 6]) ∧ Below w.heap.size w w' := by
  have H1 := Lib.hid h1; clear h1
  have H2 := Lib.hid h2; clear h2
  have H3 := Lib.hid h3; clear h3
  have H4 := Lib.hid h4; clear h4
  have F1 := Lib.hid r1; clear r1
  have F2 := Lib.hid r2; clear r2
  have G0 := Lib.hid f0; clear f0
  have G1 := Lib.hid f1; clear f1
  go_enter Tryz.func36, Tryz.ntmps36
  go_wp2_with fail
  obtain ⟨W0, hW, hbx, ka, kb, kR⟩ := fboxes2 ha hb
  rw [← hW]
  clear hW ha hb
  have hT := hbx
  have zka0 := ka.c0
  have zka1 := ka.c1
  have zka2 := ka.c2
  have zka3 := ka.c3
  go_wp2_with fail
  clear zka0 zka1 zka2 zka3
  (with_reducible refine (rfright_yes _ ka.fv H1.out H2.out F1.out).mono ?_)
  rintro e u1 ⟨rfl, hb9⟩
  replace hT := hT.trans (hb9.mono hT.size)
  replace ka := ka.below hb9
  replace kb := kb.below hb9
  replace kR := kR.below hb9
  have zkb0 := kb.c0
  have zkb1 := kb.c1
  have zkb2 := kb.c2
  have zkb3 := kb.c3
  go_wp2_with fail
  clear zkb0 zkb1 zkb2 zkb3
  (with_reducible refine (rfright_yes _ kb.fv H3.out H4.out F2.out).mono ?_)
  rintro e u2 ⟨rfl, hb9⟩
  replace hT := hT.trans (hb9.mono hT.size)
  replace ka := ka.below hb9
  replace kb := kb.below hb9
  replace kR := kR.below hb9
  have zka0 := ka.c0
  have zka1 := ka.c1
  have zkb2 := kb.c2
  have zkb3 := kb.c3
  go_wp2_with fail
  clear zka0 zka1 zkb2 zkb3
  (with_reducible refine (rmulb_any _ ka.fv.a kb.fv.b H1.out H4.out).mono ?_)
  rintro e v0 ⟨rr0, rfl, hr0, hb9⟩
  replace hT := hT.trans (hb9.mono hT.size)
  replace ka := ka.below hb9
  replace kb := kb.below hb9
  replace kR := kR.below hb9
  rw [(fits G0.out).1]
  rw [(fits G0.out).2] at hr0
  obtain ⟨x0, X0, y0, Y0, rfl⟩ := hr0.form
  obtain ⟨W1, hW, hbx, k0⟩ := box1 hr0
  have kbw := kb.below hbx
  have zkb0 := kbw.c0
  have zkb1 := kbw.c1
  have kaw := ka.below hbx
  have zka2 := kaw.c2
  have zka3 := kaw.c3
  rw [hW] at zkb0 zkb1 zka2 zka3
  go_wp2_with fail
  clear zkb0 zkb1 zka2 zka3
  clear kbw
  clear kaw
  rw [← hW]
  clear hW
  replace hT := hT.trans (hbx.mono hT.size)
  replace ka := ka.below hbx
  replace kb := kb.below hbx
  replace kR := kR.below hbx
  clear hr0
  (with_reducible refine (rmulb_any _ kb.fv.a ka.fv.b H3.out H2.out).mono ?_)
  rintro e v1 ⟨rr1, rfl, hr1, hb9⟩
  replace hT := hT.trans (hb9.mono hT.size)
  replace ka := ka.below hb9
  replace kb := kb.below hb9
  replace kR := kR.below hb9
  replace k0 := k0.below hb9
  rw [show fite (p2 * q1) = 6 from if_neg (Int.not_lt.2 G1.out)]
  obtain ⟨x1, X1, y1, Y1, rfl⟩ := hr1.form
  obtain ⟨W2, hW, hbx, k1⟩ := box1 hr1
  have kaw := ka.below hbx
  have zka2 := kaw.c2
  have zka3 := kaw.c3
  have kbw := kb.below hbx
  have zkb2 := kbw.c2
  have zkb3 := kbw.c3
  rw [hW] at zka2 zka3 zkb2 zkb3
  go_wp2_with fail
  clear zka2 zka3 zkb2 zkb3
  clear kaw
  clear kbw
  rw [← hW]
  clear hW
  replace hT := hT.trans (hbx.mono hT.size)
  replace ka := ka.below hbx
  replace kb := kb.below hbx
  replace kR := kR.below hbx
  replace k0 := k0.below hbx
  clear hr1
  (with_reducible refine (rmulb_any _ ka.fv.b kb.fv.b H2.out H4.out).mono ?_)
  rintro e v2 ⟨rr2, rfl, hr2, hb9⟩
  replace hT := hT.trans (hb9.mono hT.size)
  replace ka := ka.below hb9
  replace kb := kb.below hb9
  replace kR := kR.below hb9
  replace k0 := k0.below hb9
  replace k1 := k1.below hb9
  obtain ⟨E2, hE2⟩ : ∃ E, fite (q1 * q2) = E := ⟨_, rfl⟩
  rw [hE2]
  clear hE2
  obtain ⟨x2, X2, y2, Y2, rfl⟩ := hr2.form
  obtain ⟨W3, hW, hbx, k2⟩ := box1 hr2
  have k0w := k0.below hbx
  have zk00 := k0w.c0
  have zk01 := k0w.c1
  have k1w := k1.below hbx
  have zk10 := k1w.c0
  have zk11 := k1w.c1
  rw [hW] at zk00 zk01 zk10 zk11
  go_wp2_with fail
  clear zk00 zk01 zk10 zk11
  clear k0w
  clear k1w
  rw [← hW]
  clear hW
  replace hT := hT.trans (hbx.mono hT.size)
  replace ka := ka.below hbx
  replace kb := kb.below hbx
  replace kR := kR.below hbx
  replace k0 := k0.below hbx
  replace k1 := k1.below hbx
  clear hr2
  (with_reducible refine (raddb_any _ k0.bv k1.bv G0.out (fitz_lt (p2 * q1))).mono ?_)
  rintro e v3 ⟨rr3, rfl, hr3, hb9⟩
  replace hT := hT.trans (hb9.mono hT.size)
  replace ka := ka.below hb9
  replace kb := kb.below hb9
  replace kR := kR.below hb9
  replace k0 := k0.below hb9
  replace k1 := k1.below hb9
  replace k2 := k2.below hb9
  obtain ⟨E3, hE3⟩ : ∃ E, fite ((p1 * q2) + fitz (p2 * q1)) = E := ⟨_, rfl⟩
  rw [hE3]
  clear hE3
  obtain ⟨x3, X3, y3, Y3, rfl⟩ := hr3.form
  obtain ⟨W4, hW, hbx, k3⟩ := box1 hr3
  have k2w := k2.below hbx
  have zk30 := k3.c0
  have zk31 := k3.c1
  have zk20 := k2w.c0
  have zk21 := k2w.c1
  rw [hW] at zk30 zk31 zk20 zk21
  go_wp2_with fail
  clear zk30 zk31 zk20 zk21 k2w
  rw [← hW]
  clear hW
  replace hT := hT.trans (hbx.mono hT.size)
  replace ka := ka.below hbx
  replace kb := kb.below hbx
  replace kR := kR.below hbx
  replace k0 := k0.below hbx
  replace k1 := k1.below hbx
  replace k2 := k2.below hbx
  clear hr3
  have hlt := kR.blk.lt
  (with_reducible refine (rmade_bad _ _ _ _ _ _ _ _ _ _ _ k3.bv k2.bv).mono ?_)
  rintro e u3 ⟨rfl, hb9⟩
  replace hT := hT.trans (hb9.mono hT.size)
  replace kR := kR.below hb9
  clear ka kb k0 k1 k2 k3
  have gR : w.heap.size ≤ w.heap.size + 1 + 1 := by omega
  have r0 := kR.blk.cell 0
  have r1 := kR.blk.cell 1
  have r2 := kR.blk.cell 2
  have r3 := kR.blk.cell 3
  have q0' := kR.blk.frozen 0
  have q1' := kR.blk.frozen 1
  have q2' := kR.blk.frozen 2
  have q3' := kR.blk.frozen 3
  simp at r0 r1 r2 r3
  have hbs := kR.blk.set4 (.int .i64 0) (.slice none 0 0) (.int .i64 0) (.slice none 0 0)
  have x0 := hbs.cell 0
  have x1 := hbs.cell 1
  have x2 := hbs.cell 2
  have x3 := hbs.cell 3
  simp at x0 x1 x2 x3
  go_wp2_with fail
  refine bodyPost_ret (v := .tuple #[.agg #[.int .i64 0, .slice none 0 0, .int .i64 0, .slice none 0 0], .int .i64 6]) (by simp [results, Tryz.results36, go_sem, x0, x1, x2, x3]) rfl ?_
  exact ⟨rfl, below_st4 hT gR _ _ _ _⟩

set_option maxRecDepth 100000 in
set_option maxHeartbeats 8000000 in
theorem rfadd_2 (s1 s2 s3 s4 : Int) (A1 A2 A3 A4 : Option Addr) (n1 d1 n2 d2 n3 d3 n4 d4 : Nat) (p1 q1 p2 q2 : Int) (w : World) (ha : FV w w.heap.size s1 A1 n1 d1 s2 A2 n2 d2 p1 q1) (hb : FV w w.heap.size s3 A3 n3 d3 s4 A4 n4 d4 p2 q2) (h1 : ab p1 < pw 60) (h2 : ab q1 < pw 60) (h3 : ab p2 < pw 60) (h4 : ab q2 < pw 60) (r1 : FR p1 q1) (r2 : FR p2 q2) (f0 : ab (p1 * q2) < pw 60) (f1 : ab (p2 * q1) < pw 60) (f2 : ¬ ab (q1 * q2) < pw 60) :
    Calls Tryz.prog 36 #[.agg #[.int .i64 s1, .slice A1 n1 d1, .int .i64 s2, .slice A2 n2 d2], .agg #[.int .i64 s3, .slice A3 n3 d3, .int .i64 s4, .slice A4 n4 d4]] w fun e w' => e = .returned (.tuple #[.agg #[.int .i64 0, .slice none 0 0, .int .i64 0, .slice none 0 0], .int .i64 6]) ∧ Below w.heap.size w w' := by
  have H1 := Lib.hid h1; clear h1
  have H2 := Lib.hid h2; clear h2
  have H3 := Lib.hid h3; clear h3
  have H4 := Lib.hid h4; clear h4
  have F1 := Lib.hid r1; clear r1
  have F2 := Lib.hid r2; clear r2
  have G0 := Lib.hid f0; clear f0
  have G1 := Lib.hid f1; clear f1
  have G2 := Lib.hid f2; clear f2
  go_enter Tryz.func36, Tryz.ntmps36
  go_wp2_with fail
  obtain ⟨W0, hW, hbx, ka, kb, kR⟩ := fboxes2 ha hb
  rw [← hW]
  clear hW ha hb
  have hT := hbx
  have zka0 := ka.c0
  have zka1 := ka.c1
  have zka2 := ka.c2
  have zka3 := ka.c3
  go_wp2_with fail
  clear zka0 zka1 zka2 zka3
  (with_reducible refine (rfright_yes _ ka.fv H1.out H2.out F1.out).mono ?_)
  rintro e u1 ⟨rfl, hb9⟩
  replace hT := hT.trans (hb9.mono hT.size)
  replace ka := ka.below hb9
  replace kb := kb.below hb9
  replace kR := kR.below hb9
  have zkb0 := kb.c0
  have zkb1 := kb.c1
  have zkb2 := kb.c2
  have zkb3 := kb.c3
  go_wp2_with fail
  clear zkb0 zkb1 zkb2 zkb3
  (with_reducible refine (rfright_yes _ kb.fv H3.out H4.out F2.out).mono ?_)
  rintro e u2 ⟨rfl, hb9⟩
  replace hT := hT.trans (hb9.mono hT.size)
  replace ka := ka.below hb9
  replace kb := kb.below hb9
  replace kR := kR.below hb9
  have zka0 := ka.c0
  have zka1 := ka.c1
  have zkb2 := kb.c2
  have zkb3 := kb.c3
  go_wp2_with fail
  clear zka0 zka1 zkb2 zkb3
  (with_reducible refine (rmulb_any _ ka.fv.a kb.fv.b H1.out H4.out).mono ?_)
  rintro e v0 ⟨rr0, rfl, hr0, hb9⟩
  replace hT := hT.trans (hb9.mono hT.size)
  replace ka := ka.below hb9
  replace kb := kb.below hb9
  replace kR := kR.below hb9
  rw [(fits G0.out).1]
  rw [(fits G0.out).2] at hr0
  obtain ⟨x0, X0, y0, Y0, rfl⟩ := hr0.form
  obtain ⟨W1, hW, hbx, k0⟩ := box1 hr0
  have kbw := kb.below hbx
  have zkb0 := kbw.c0
  have zkb1 := kbw.c1
  have kaw := ka.below hbx
  have zka2 := kaw.c2
  have zka3 := kaw.c3
  rw [hW] at zkb0 zkb1 zka2 zka3
  go_wp2_with fail
  clear zkb0 zkb1 zka2 zka3
  clear kbw
  clear kaw
  rw [← hW]
  clear hW
  replace hT := hT.trans (hbx.mono hT.size)
  replace ka := ka.below hbx
  replace kb := kb.below hbx
  replace kR := kR.below hbx
  clear hr0
  (with_reducible refine (rmulb_any _ kb.fv.a ka.fv.b H3.out H2.out).mono ?_)
  rintro e v1 ⟨rr1, rfl, hr1, hb9⟩
  replace hT := hT.trans (hb9.mono hT.size)
  replace ka := ka.below hb9
  replace kb := kb.below hb9
  replace kR := kR.below hb9
  replace k0 := k0.below hb9
  rw [(fits G1.out).1]
  rw [(fits G1.out).2] at hr1
  obtain ⟨x1, X1, y1, Y1, rfl⟩ := hr1.form
  obtain ⟨W2, hW, hbx, k1⟩ := box1 hr1
  have kaw := ka.below hbx
  have zka2 := kaw.c2
  have zka3 := kaw.c3
  have kbw := kb.below hbx
  have zkb2 := kbw.c2
  have zkb3 := kbw.c3
  rw [hW] at zka2 zka3 zkb2 zkb3
  go_wp2_with fail
  clear zka2 zka3 zkb2 zkb3
  clear kaw
  clear kbw
  rw [← hW]
  clear hW
  replace hT := hT.trans (hbx.mono hT.size)
  replace ka := ka.below hbx
  replace kb := kb.below hbx
  replace kR := kR.below hbx
  replace k0 := k0.below hbx
  clear hr1
  (with_reducible refine (rmulb_any _ ka.fv.b kb.fv.b H2.out H4.out).mono ?_)
  rintro e v2 ⟨rr2, rfl, hr2, hb9⟩
  replace hT := hT.trans (hb9.mono hT.size)
  replace ka := ka.below hb9
  replace kb := kb.below hb9
  replace kR := kR.below hb9
  replace k0 := k0.below hb9
  replace k1 := k1.below hb9
  rw [show fite (q1 * q2) = 6 from if_neg (Int.not_lt.2 G2.out)]
  obtain ⟨x2, X2, y2, Y2, rfl⟩ := hr2.form
  obtain ⟨W3, hW, hbx, k2⟩ := box1 hr2
  have k0w := k0.below hbx
  have zk00 := k0w.c0
  have zk01 := k0w.c1
  have k1w := k1.below hbx
  have zk10 := k1w.c0
  have zk11 := k1w.c1
  rw [hW] at zk00 zk01 zk10 zk11
  go_wp2_with fail
  clear zk00 zk01 zk10 zk11
  clear k0w
  clear k1w
  rw [← hW]
  clear hW
  replace hT := hT.trans (hbx.mono hT.size)
  replace ka := ka.below hbx
  replace kb := kb.below hbx
  replace kR := kR.below hbx
  replace k0 := k0.below hbx
  replace k1 := k1.below hbx
  clear hr2
  (with_reducible refine (raddb_any _ k0.bv k1.bv G0.out G1.out).mono ?_)
  rintro e v3 ⟨rr3, rfl, hr3, hb9⟩
  replace hT := hT.trans (hb9.mono hT.size)
  replace ka := ka.below hb9
  replace kb := kb.below hb9
  replace kR := kR.below hb9
  replace k0 := k0.below hb9
  replace k1 := k1.below hb9
  replace k2 := k2.below hb9
  obtain ⟨E3, hE3⟩ : ∃ E, fite ((p1 * q2) + (p2 * q1)) = E := ⟨_, rfl⟩
  rw [hE3]
  clear hE3
  obtain ⟨x3, X3, y3, Y3, rfl⟩ := hr3.form
  obtain ⟨W4, hW, hbx, k3⟩ := box1 hr3
  have k2w := k2.below hbx
  have zk30 := k3.c0
  have zk31 := k3.c1
  have zk20 := k2w.c0
  have zk21 := k2w.c1
  rw [hW] at zk30 zk31 zk20 zk21
  go_wp2_with fail
  clear zk30 zk31 zk20 zk21 k2w
  rw [← hW]
  clear hW
  replace hT := hT.trans (hbx.mono hT.size)
  replace ka := ka.below hbx
  replace kb := kb.below hbx
  replace kR := kR.below hbx
  replace k0 := k0.below hbx
  replace k1 := k1.below hbx
  replace k2 := k2.below hbx
  clear hr3
  have hlt := kR.blk.lt
  (with_reducible refine (rmade_bad _ _ _ _ _ _ _ _ _ _ _ k3.bv k2.bv).mono ?_)
  rintro e u3 ⟨rfl, hb9⟩
  replace hT := hT.trans (hb9.mono hT.size)
  replace kR := kR.below hb9
  clear ka kb k0 k1 k2 k3
  have gR : w.heap.size ≤ w.heap.size + 1 + 1 := by omega
  have r0 := kR.blk.cell 0
  have r1 := kR.blk.cell 1
  have r2 := kR.blk.cell 2
  have r3 := kR.blk.cell 3
  have q0' := kR.blk.frozen 0
  have q1' := kR.blk.frozen 1
  have q2' := kR.blk.frozen 2
  have q3' := kR.blk.frozen 3
  simp at r0 r1 r2 r3
  have hbs := kR.blk.set4 (.int .i64 0) (.slice none 0 0) (.int .i64 0) (.slice none 0 0)
  have x0 := hbs.cell 0
  have x1 := hbs.cell 1
  have x2 := hbs.cell 2
  have x3 := hbs.cell 3
  simp at x0 x1 x2 x3
  go_wp2_with fail
  refine bodyPost_ret (v := .tuple #[.agg #[.int .i64 0, .slice none 0 0, .int .i64 0, .slice none 0 0], .int .i64 6]) (by simp [results, Tryz.results36, go_sem, x0, x1, x2, x3]) rfl ?_
  exact ⟨rfl, below_st4 hT gR _ _ _ _⟩

set_option maxRecDepth 100000 in
set_option maxHeartbeats 8000000 in
theorem rfadd_3 (s1 s2 s3 s4 : Int) (A1 A2 A3 A4 : Option Addr) (n1 d1 n2 d2 n3 d3 n4 d4 : Nat) (p1 q1 p2 q2 : Int) (w : World) (ha : FV w w.heap.size s1 A1 n1 d1 s2 A2 n2 d2 p1 q1) (hb : FV w w.heap.size s3 A3 n3 d3 s4 A4 n4 d4 p2 q2) (h1 : ab p1 < pw 60) (h2 : ab q1 < pw 60) (h3 : ab p2 < pw 60) (h4 : ab q2 < pw 60) (r1 : FR p1 q1) (r2 : FR p2 q2) (f0 : ab (p1 * q2) < pw 60) (f1 : ab (p2 * q1) < pw 60) (f2 : ab (q1 * q2) < pw 60) (f3 : ¬ ab (p1 * q2 + p2 * q1) < pw 60) :
    Calls Tryz.prog 36 #[.agg #[.int .i64 s1, .slice A1 n1 d1, .int .i64 s2, .slice A2 n2 d2], .agg #[.int .i64 s3, .slice A3 n3 d3, .int .i64 s4, .slice A4 n4 d4]] w fun e w' => e = .returned (.tuple #[.agg #[.int .i64 0, .slice none 0 0, .int .i64 0, .slice none 0 0], .int .i64 6]) ∧ Below w.heap.size w w' := by
  have H1 := Lib.hid h1; clear h1
  have H2 := Lib.hid h2; clear h2
  have H3 := Lib.hid h3; clear h3
  have H4 := Lib.hid h4; clear h4
  have F1 := Lib.hid r1; clear r1
  have F2 := Lib.hid r2; clear r2
  have G0 := Lib.hid f0; clear f0
  have G1 := Lib.hid f1; clear f1
  have G2 := Lib.hid f2; clear f2
  have G3 := Lib.hid f3; clear f3
  go_enter Tryz.func36, Tryz.ntmps36
  go_wp2_with fail
  obtain ⟨W0, hW, hbx, ka, kb, kR⟩ := fboxes2 ha hb
  rw [← hW]
  clear hW ha hb
  have hT := hbx
  have zka0 := ka.c0
  have zka1 := ka.c1
  have zka2 := ka.c2
  have zka3 := ka.c3
  go_wp2_with fail
  clear zka0 zka1 zka2 zka3
  (with_reducible refine (rfright_yes _ ka.fv H1.out H2.out F1.out).mono ?_)
  rintro e u1 ⟨rfl, hb9⟩
  replace hT := hT.trans (hb9.mono hT.size)
  replace ka := ka.below hb9
  replace kb := kb.below hb9
  replace kR := kR.below hb9
  have zkb0 := kb.c0
  have zkb1 := kb.c1
  have zkb2 := kb.c2
  have zkb3 := kb.c3
  go_wp2_with fail
  clear zkb0 zkb1 zkb2 zkb3
  (with_reducible refine (rfright_yes _ kb.fv H3.out H4.out F2.out).mono ?_)
  rintro e u2 ⟨rfl, hb9⟩
  replace hT := hT.trans (hb9.mono hT.size)
  replace ka := ka.below hb9
  replace kb := kb.below hb9
  replace kR := kR.below hb9
  have zka0 := ka.c0
  have zka1 := ka.c1
  have zkb2 := kb.c2
  have zkb3 := kb.c3
  go_wp2_with fail
  clear zka0 zka1 zkb2 zkb3
  (with_reducible refine (rmulb_any _ ka.fv.a kb.fv.b H1.out H4.out).mono ?_)
  rintro e v0 ⟨rr0, rfl, hr0, hb9⟩
  replace hT := hT.trans (hb9.mono hT.size)
  replace ka := ka.below hb9
  replace kb := kb.below hb9
  replace kR := kR.below hb9
  rw [(fits G0.out).1]
  rw [(fits G0.out).2] at hr0
  obtain ⟨x0, X0, y0, Y0, rfl⟩ := hr0.form
  obtain ⟨W1, hW, hbx, k0⟩ := box1 hr0
  have kbw := kb.below hbx
  have zkb0 := kbw.c0
  have zkb1 := kbw.c1
  have kaw := ka.below hbx
  have zka2 := kaw.c2
  have zka3 := kaw.c3
  rw [hW] at zkb0 zkb1 zka2 zka3
  go_wp2_with fail
  clear zkb0 zkb1 zka2 zka3
  clear kbw
  clear kaw
  rw [← hW]
  clear hW
  replace hT := hT.trans (hbx.mono hT.size)
  replace ka := ka.below hbx
  replace kb := kb.below hbx
  replace kR := kR.below hbx
  clear hr0
  (with_reducible refine (rmulb_any _ kb.fv.a ka.fv.b H3.out H2.out).mono ?_)
  rintro e v1 ⟨rr1, rfl, hr1, hb9⟩
  replace hT := hT.trans (hb9.mono hT.size)
  replace ka := ka.below hb9
  replace kb := kb.below hb9
  replace kR := kR.below hb9
  replace k0 := k0.below hb9
  rw [(fits G1.out).1]
  rw [(fits G1.out).2] at hr1
  obtain ⟨x1, X1, y1, Y1, rfl⟩ := hr1.form
  obtain ⟨W2, hW, hbx, k1⟩ := box1 hr1
  have kaw := ka.below hbx
  have zka2 := kaw.c2
  have zka3 := kaw.c3
  have kbw := kb.below hbx
  have zkb2 := kbw.c2
  have zkb3 := kbw.c3
  rw [hW] at zka2 zka3 zkb2 zkb3
  go_wp2_with fail
  clear zka2 zka3 zkb2 zkb3
  clear kaw
  clear kbw
  rw [← hW]
  clear hW
  replace hT := hT.trans (hbx.mono hT.size)
  replace ka := ka.below hbx
  replace kb := kb.below hbx
  replace kR := kR.below hbx
  replace k0 := k0.below hbx
  clear hr1
  (with_reducible refine (rmulb_any _ ka.fv.b kb.fv.b H2.out H4.out).mono ?_)
  rintro e v2 ⟨rr2, rfl, hr2, hb9⟩
  replace hT := hT.trans (hb9.mono hT.size)
  replace ka := ka.below hb9
  replace kb := kb.below hb9
  replace kR := kR.below hb9
  replace k0 := k0.below hb9
  replace k1 := k1.below hb9
  rw [(fits G2.out).1]
  rw [(fits G2.out).2] at hr2
  obtain ⟨x2, X2, y2, Y2, rfl⟩ := hr2.form
  obtain ⟨W3, hW, hbx, k2⟩ := box1 hr2
  have k0w := k0.below hbx
  have zk00 := k0w.c0
  have zk01 := k0w.c1
  have k1w := k1.below hbx
  have zk10 := k1w.c0
  have zk11 := k1w.c1
  rw [hW] at zk00 zk01 zk10 zk11
  go_wp2_with fail
  clear zk00 zk01 zk10 zk11
  clear k0w
  clear k1w
  rw [← hW]
  clear hW
  replace hT := hT.trans (hbx.mono hT.size)
  replace ka := ka.below hbx
  replace kb := kb.below hbx
  replace kR := kR.below hbx
  replace k0 := k0.below hbx
  replace k1 := k1.below hbx
  clear hr2
  (with_reducible refine (raddb_any _ k0.bv k1.bv G0.out G1.out).mono ?_)
  rintro e v3 ⟨rr3, rfl, hr3, hb9⟩
  replace hT := hT.trans (hb9.mono hT.size)
  replace ka := ka.below hb9
  replace kb := kb.below hb9
  replace kR := kR.below hb9
  replace k0 := k0.below hb9
  replace k1 := k1.below hb9
  replace k2 := k2.below hb9
  rw [show fite (p1 * q2 + p2 * q1) = 6 from if_neg (Int.not_lt.2 G3.out)]
  obtain ⟨x3, X3, y3, Y3, rfl⟩ := hr3.form
  obtain ⟨W4, hW, hbx, k3⟩ := box1 hr3
  have k2w := k2.below hbx
  have zk30 := k3.c0
  have zk31 := k3.c1
  have zk20 := k2w.c0
  have zk21 := k2w.c1
  rw [hW] at zk30 zk31 zk20 zk21
  go_wp2_with fail
  clear zk30 zk31 zk20 zk21 k2w
  rw [← hW]
  clear hW
  replace hT := hT.trans (hbx.mono hT.size)
  replace ka := ka.below hbx
  replace kb := kb.below hbx
  replace kR := kR.below hbx
  replace k0 := k0.below hbx
  replace k1 := k1.below hbx
  replace k2 := k2.below hbx
  clear hr3
  have hlt := kR.blk.lt
  (with_reducible refine (rmade_bad _ _ _ _ _ _ _ _ _ _ _ k3.bv k2.bv).mono ?_)
  rintro e u3 ⟨rfl, hb9⟩
  replace hT := hT.trans (hb9.mono hT.size)
  replace kR := kR.below hb9
  clear ka kb k0 k1 k2 k3
  have gR : w.heap.size ≤ w.heap.size + 1 + 1 := by omega
  have r0 := kR.blk.cell 0
  have r1 := kR.blk.cell 1
  have r2 := kR.blk.cell 2
  have r3 := kR.blk.cell 3
  have q0' := kR.blk.frozen 0
  have q1' := kR.blk.frozen 1
  have q2' := kR.blk.frozen 2
  have q3' := kR.blk.frozen 3
  simp at r0 r1 r2 r3
  have hbs := kR.blk.set4 (.int .i64 0) (.slice none 0 0) (.int .i64 0) (.slice none 0 0)
  have x0 := hbs.cell 0
  have x1 := hbs.cell 1
  have x2 := hbs.cell 2
  have x3 := hbs.cell 3
  simp at x0 x1 x2 x3
  go_wp2_with fail
  refine bodyPost_ret (v := .tuple #[.agg #[.int .i64 0, .slice none 0 0, .int .i64 0, .slice none 0 0], .int .i64 6]) (by simp [results, Tryz.results36, go_sem, x0, x1, x2, x3]) rfl ?_
  exact ⟨rfl, below_st4 hT gR _ _ _ _⟩

set_option maxRecDepth 100000 in
set_option maxHeartbeats 8000000 in
theorem rfadd_fit (s1 s2 s3 s4 : Int) (A1 A2 A3 A4 : Option Addr) (n1 d1 n2 d2 n3 d3 n4 d4 : Nat) (p1 q1 p2 q2 : Int) (w : World) (ha : FV w w.heap.size s1 A1 n1 d1 s2 A2 n2 d2 p1 q1) (hb : FV w w.heap.size s3 A3 n3 d3 s4 A4 n4 d4 p2 q2) (h1 : ab p1 < pw 60) (h2 : ab q1 < pw 60) (h3 : ab p2 < pw 60) (h4 : ab q2 < pw 60) (r1 : FR p1 q1) (r2 : FR p2 q2) (f0 : ab (p1 * q2) < pw 60) (f1 : ab (p2 * q1) < pw 60) (f2 : ab (q1 * q2) < pw 60) (f3 : ab (p1 * q2 + p2 * q1) < pw 60) :
    Calls Tryz.prog 36 #[.agg #[.int .i64 s1, .slice A1 n1 d1, .int .i64 s2, .slice A2 n2 d2], .agg #[.int .i64 s3, .slice A3 n3 d3, .int .i64 s4, .slice A4 n4 d4]] w (NewP (p1 * q2 + p2 * q1) (q1 * q2) w) := by
  have H1 := Lib.hid h1; clear h1
  have H2 := Lib.hid h2; clear h2
  have H3 := Lib.hid h3; clear h3
  have H4 := Lib.hid h4; clear h4
  have F1 := Lib.hid r1; clear r1
  have F2 := Lib.hid r2; clear r2
  have G0 := Lib.hid f0; clear f0
  have G1 := Lib.hid f1; clear f1
  have G2 := Lib.hid f2; clear f2
  have G3 := Lib.hid f3; clear f3
  unfold NewP
  obtain ⟨E, hE⟩ : ∃ E, newE (q1 * q2) = E := ⟨_, rfl⟩
  obtain ⟨P, hP⟩ : ∃ E, newN (p1 * q2 + p2 * q1) (q1 * q2) = E := ⟨_, rfl⟩
  obtain ⟨Q, hQ⟩ : ∃ E, newD (p1 * q2 + p2 * q1) (q1 * q2) = E := ⟨_, rfl⟩
  rw [hE, hP, hQ]
  have HE := Lib.hid hE; clear hE
  have HP := Lib.hid hP; clear hP
  have HQ := Lib.hid hQ; clear hQ
  go_enter Tryz.func36, Tryz.ntmps36
  go_wp2_with fail
  obtain ⟨W0, hW, hbx, ka, kb, kR⟩ := fboxes2 ha hb
  rw [← hW]
  clear hW ha hb
  have hT := hbx
  have zka0 := ka.c0
  have zka1 := ka.c1
  have zka2 := ka.c2
  have zka3 := ka.c3
  go_wp2_with fail
  clear zka0 zka1 zka2 zka3
  (with_reducible refine (rfright_yes _ ka.fv H1.out H2.out F1.out).mono ?_)
  rintro e u1 ⟨rfl, hb9⟩
  replace hT := hT.trans (hb9.mono hT.size)
  replace ka := ka.below hb9
  replace kb := kb.below hb9
  replace kR := kR.below hb9
  have zkb0 := kb.c0
  have zkb1 := kb.c1
  have zkb2 := kb.c2
  have zkb3 := kb.c3
  go_wp2_with fail
  clear zkb0 zkb1 zkb2 zkb3
  (with_reducible refine (rfright_yes _ kb.fv H3.out H4.out F2.out).mono ?_)
  rintro e u2 ⟨rfl, hb9⟩
  replace hT := hT.trans (hb9.mono hT.size)
  replace ka := ka.below hb9
  replace kb := kb.below hb9
  replace kR := kR.below hb9
  have zka0 := ka.c0
  have zka1 := ka.c1
  have zkb2 := kb.c2
  have zkb3 := kb.c3
  go_wp2_with fail
  clear zka0 zka1 zkb2 zkb3
  (with_reducible refine (rmulb_any _ ka.fv.a kb.fv.b H1.out H4.out).mono ?_)
  rintro e v0 ⟨rr0, rfl, hr0, hb9⟩
  replace hT := hT.trans (hb9.mono hT.size)
  replace ka := ka.below hb9
  replace kb := kb.below hb9
  replace kR := kR.below hb9
  rw [(fits G0.out).1]
  rw [(fits G0.out).2] at hr0
  obtain ⟨x0, X0, y0, Y0, rfl⟩ := hr0.form
  obtain ⟨W1, hW, hbx, k0⟩ := box1 hr0
  have kbw := kb.below hbx
  have zkb0 := kbw.c0
  have zkb1 := kbw.c1
  have kaw := ka.below hbx
  have zka2 := kaw.c2
  have zka3 := kaw.c3
  rw [hW] at zkb0 zkb1 zka2 zka3
  go_wp2_with fail
  clear zkb0 zkb1 zka2 zka3
  clear kbw
  clear kaw
  rw [← hW]
  clear hW
  replace hT := hT.trans (hbx.mono hT.size)
  replace ka := ka.below hbx
  replace kb := kb.below hbx
  replace kR := kR.below hbx
  clear hr0
  (with_reducible refine (rmulb_any _ kb.fv.a ka.fv.b H3.out H2.out).mono ?_)
  rintro e v1 ⟨rr1, rfl, hr1, hb9⟩
  replace hT := hT.trans (hb9.mono hT.size)
  replace ka := ka.below hb9
  replace kb := kb.below hb9
  replace kR := kR.below hb9
  replace k0 := k0.below hb9
  rw [(fits G1.out).1]
  rw [(fits G1.out).2] at hr1
  obtain ⟨x1, X1, y1, Y1, rfl⟩ := hr1.form
  obtain ⟨W2, hW, hbx, k1⟩ := box1 hr1
  have kaw := ka.below hbx
  have zka2 := kaw.c2
  have zka3 := kaw.c3
  have kbw := kb.below hbx
  have zkb2 := kbw.c2
  have zkb3 := kbw.c3
  rw [hW] at zka2 zka3 zkb2 zkb3
  go_wp2_with fail
  clear zka2 zka3 zkb2 zkb3
  clear kaw
  clear kbw
  rw [← hW]
  clear hW
  replace hT := hT.trans (hbx.mono hT.size)
  replace ka := ka.below hbx
  replace kb := kb.below hbx
  replace kR := kR.below hbx
  replace k0 := k0.below hbx
  clear hr1
  (with_reducible refine (rmulb_any _ ka.fv.b kb.fv.b H2.out H4.out).mono ?_)
  rintro e v2 ⟨rr2, rfl, hr2, hb9⟩
  replace hT := hT.trans (hb9.mono hT.size)
  replace ka := ka.below hb9
  replace kb := kb.below hb9
  replace kR := kR.below hb9
  replace k0 := k0.below hb9
  replace k1 := k1.below hb9
  rw [(fits G2.out).1]
  rw [(fits G2.out).2] at hr2
  obtain ⟨x2, X2, y2, Y2, rfl⟩ := hr2.form
  obtain ⟨W3, hW, hbx, k2⟩ := box1 hr2
  have k0w := k0.below hbx
  have zk00 := k0w.c0
  have zk01 := k0w.c1
  have k1w := k1.below hbx
  have zk10 := k1w.c0
  have zk11 := k1w.c1
  rw [hW] at zk00 zk01 zk10 zk11
  go_wp2_with fail
  clear zk00 zk01 zk10 zk11
  clear k0w
  clear k1w
  rw [← hW]
  clear hW
  replace hT := hT.trans (hbx.mono hT.size)
  replace ka := ka.below hbx
  replace kb := kb.below hbx
  replace kR := kR.below hbx
  replace k0 := k0.below hbx
  replace k1 := k1.below hbx
  clear hr2
  (with_reducible refine (raddb_any _ k0.bv k1.bv G0.out G1.out).mono ?_)
  rintro e v3 ⟨rr3, rfl, hr3, hb9⟩
  replace hT := hT.trans (hb9.mono hT.size)
  replace ka := ka.below hb9
  replace kb := kb.below hb9
  replace kR := kR.below hb9
  replace k0 := k0.below hb9
  replace k1 := k1.below hb9
  replace k2 := k2.below hb9
  rw [(fits G3.out).1]
  rw [(fits G3.out).2] at hr3
  obtain ⟨x3, X3, y3, Y3, rfl⟩ := hr3.form
  obtain ⟨W4, hW, hbx, k3⟩ := box1 hr3
  have k2w := k2.below hbx
  have zk30 := k3.c0
  have zk31 := k3.c1
  have zk20 := k2w.c0
  have zk21 := k2w.c1
  rw [hW] at zk30 zk31 zk20 zk21
  go_wp2_with fail
  clear zk30 zk31 zk20 zk21 k2w
  rw [← hW]
  clear hW
  replace hT := hT.trans (hbx.mono hT.size)
  replace ka := ka.below hbx
  replace kb := kb.below hbx
  replace kR := kR.below hbx
  replace k0 := k0.below hbx
  replace k1 := k1.below hbx
  replace k2 := k2.below hbx
  clear hr3
  have hlt := kR.blk.lt
  (with_reducible refine (rmade_ok _ _ _ _ _ _ _ _ _ _ _ k3.bv k2.bv G3.out G2.out).mono ?_)
  rintro e u3 ⟨rr, rfl, hrr, hb9⟩
  replace hT := hT.trans (hb9.mono hT.size)
  replace kR := kR.below hb9
  clear ka kb k0 k1 k2 k3
  rw [HP.out, HQ.out] at hrr
  rw [HE.out]
  obtain ⟨t1, C1, m1, e1, t2, C2, m2, e2, rfl, g1, g2⟩ := hrr
  have gR : w.heap.size ≤ w.heap.size + 1 + 1 := by omega
  have r0 := kR.blk.cell 0
  have r1 := kR.blk.cell 1
  have r2 := kR.blk.cell 2
  have r3 := kR.blk.cell 3
  have q0' := kR.blk.frozen 0
  have q1' := kR.blk.frozen 1
  have q2' := kR.blk.frozen 2
  have q3' := kR.blk.frozen 3
  simp at r0 r1 r2 r3
  have hbs := kR.blk.set4 (.int .i64 t1) (.slice C1 m1 e1) (.int .i64 t2) (.slice C2 m2 e2)
  have x0 := hbs.cell 0
  have x1 := hbs.cell 1
  have x2 := hbs.cell 2
  have x3 := hbs.cell 3
  simp at x0 x1 x2 x3
  go_wp2_with fail
  refine bodyPost_ret (v := .tuple #[.agg #[.int .i64 t1, .slice C1 m1 e1, .int .i64 t2, .slice C2 m2 e2], .int .i64 E]) (by simp [results, Tryz.results36, go_sem, x0, x1, x2, x3]) rfl ?_
  exact ⟨_, rfl, FO.mk2 ((g1.far4 hlt _ _ _ _).mono (by omega)) ((g2.far4 hlt _ _ _ _).mono (by omega)), below_st4 hT gR _ _ _ _⟩

set_option maxRecDepth 100000 in
set_option maxHeartbeats 8000000 in
theorem rfsub_0 (s1 s2 s3 s4 : Int) (A1 A2 A3 A4 : Option Addr) (n1 d1 n2 d2 n3 d3 n4 d4 : Nat) (p1 q1 p2 q2 : Int) (w : World) (ha : FV w w.heap.size s1 A1 n1 d1 s2 A2 n2 d2 p1 q1) (hb : FV w w.heap.size s3 A3 n3 d3 s4 A4 n4 d4 p2 q2) (h1 : ab p1 < pw 60) (h2 : ab q1 < pw 60) (h3 : ab p2 < pw 60) (h4 : ab q2 < pw 60) (r1 : FR p1 q1) (r2 : FR p2 q2)  (f0 : ¬ ab (p1 * q2) < pw 60) :
    Calls Tryz.prog 38 #[.agg #[.int .i64 s1, .slice A1 n1 d1, .int .i64 s2, .slice A2 n2 d2], .agg #[.int .i64 s3, .slice A3 n3 d3, .int .i64 s4, .slice A4 n4 d4]] w fun e w' => e = .returned (.tuple #[.agg #[.int .i64 0, .slice none 0 0, .int .i64 0, .slice none 0 0], .int .i64 6]) ∧ Below w.heap.size w w' := by
  have H1 := Lib.hid h1; clear h1
  have H2 := Lib.hid h2; clear h2
  have H3 := Lib.hid h3; clear h3
  have H4 := Lib.hid h4; clear h4
  have F1 := Lib.hid r1; clear r1
  have F2 := Lib.hid r2; clear r2
  have G0 := Lib.hid f0; clear f0
  go_enter Tryz.func38, Tryz.ntmps38
  go_wp2_with fail
  obtain ⟨W0, hW, hbx, ka, kb, kR⟩ := fboxes2 ha hb
  rw [← hW]
  clear hW ha hb
  have hT := hbx
  have zka0 := ka.c0
  have zka1 := ka.c1
  have zka2 := ka.c2
  have zka3 := ka.c3
  go_wp2_with fail
  clear zka0 zka1 zka2 zka3
  (with_reducible refine (rfright_yes _ ka.fv H1.out H2.out F1.out).mono ?_)
  rintro e u1 ⟨rfl, hb9⟩
  replace hT := hT.trans (hb9.mono hT.size)
  replace ka := ka.below hb9
  replace kb := kb.below hb9
  replace kR := kR.below hb9
  have zkb0 := kb.c0
  have zkb1 := kb.c1
  have zkb2 := kb.c2
  have zkb3 := kb.c3
  go_wp2_with fail
  clear zkb0 zkb1 zkb2 zkb3
  (with_reducible refine (rfright_yes _ kb.fv H3.out H4.out F2.out).mono ?_)
  rintro e u2 ⟨rfl, hb9⟩
  replace hT := hT.trans (hb9.mono hT.size)
  replace ka := ka.below hb9
  replace kb := kb.below hb9
  replace kR := kR.below hb9
  have zka0 := ka.c0
  have zka1 := ka.c1
  have zkb2 := kb.c2
  have zkb3 := kb.c3
  go_wp2_with fail
  clear zka0 zka1 zkb2 zkb3
  (with_reducible refine (rmulb_any _ ka.fv.a kb.fv.b H1.out H4.out).mono ?_)
  rintro e v0 ⟨rr0, rfl, hr0, hb9⟩
  replace hT := hT.trans (hb9.mono hT.size)
  replace ka := ka.below hb9
  replace kb := kb.below hb9
  replace kR := kR.below hb9
  rw [show fite (p1 * q2) = 6 from if_neg (Int.not_lt.2 G0.out)]
  obtain ⟨x0, X0, y0, Y0, rfl⟩ := hr0.form
  obtain ⟨W1, hW, hbx, k0⟩ := box1 hr0
  have kbw := kb.below hbx
  have zkb0 := kbw.c0
  have zkb1 := kbw.c1
  have kaw := ka.below hbx
  have zka2 := kaw.c2
  have zka3 := kaw.c3
  rw [hW] at zkb0 zkb1 zka2 zka3
  go_wp2_with fail
  clear zkb0 zkb1 zka2 zka3
  clear kbw
  clear kaw
  rw [← hW]
  clear hW
  replace hT := hT.trans (hbx.mono hT.size)
  replace ka := ka.below hbx
  replace kb := kb.below hbx
  replace kR := kR.below hbx
  clear hr0
  (with_reducible refine (rmulb_any _ kb.fv.a ka.fv.b H3.out H2.out).mono ?_)
  rintro e v1 ⟨rr1, rfl, hr1, hb9⟩
  replace hT := hT.trans (hb9.mono hT.size)
  replace ka := ka.below hb9
  replace kb := kb.below hb9
  replace kR := kR.below hb9
  replace k0 := k0.below hb9
  obtain ⟨E1, hE1⟩ : ∃ E, fite (p2 * q1) = E := ⟨_, rfl⟩
  rw [hE1]
  clear hE1
  obtain ⟨x1, X1, y1, Y1, rfl⟩ := hr1.form
  obtain ⟨W2, hW, hbx, k1⟩ := box1 hr1
  have kaw := ka.below hbx
  have zka2 := kaw.c2
  have zka3 := kaw.c3
  have kbw := kb.below hbx
  have zkb2 := kbw.c2
  have zkb3 := kbw.c3
  rw [hW] at zka2 zka3 zkb2 zkb3
  go_wp2_with fail
  clear zka2 zka3 zkb2 zkb3
  clear kaw
  clear kbw
  rw [← hW]
  clear hW
  replace hT := hT.trans (hbx.mono hT.size)
  replace ka := ka.below hbx
  replace kb := kb.below hbx
  replace kR := kR.below hbx
  replace k0 := k0.below hbx
  clear hr1
  (with_reducible refine (rmulb_any _ ka.fv.b kb.fv.b H2.out H4.out).mono ?_)
  rintro e v2 ⟨rr2, rfl, hr2, hb9⟩
  replace hT := hT.trans (hb9.mono hT.size)
  replace ka := ka.below hb9
  replace kb := kb.below hb9
  replace kR := kR.below hb9
  replace k0 := k0.below hb9
  replace k1 := k1.below hb9
  obtain ⟨E2, hE2⟩ : ∃ E, fite (q1 * q2) = E := ⟨_, rfl⟩
  rw [hE2]
  clear hE2
  obtain ⟨x2, X2, y2, Y2, rfl⟩ := hr2.form
  obtain ⟨W3, hW, hbx, k2⟩ := box1 hr2
  have k0w := k0.below hbx
  have zk00 := k0w.c0
  have zk01 := k0w.c1
  have k1w := k1.below hbx
  have zk10 := k1w.c0
  have zk11 := k1w.c1
  rw [hW] at zk00 zk01 zk10 zk11
  go_wp2_with fail
  clear zk00 zk01 zk10 zk11
  clear k0w
  clear k1w
  rw [← hW]
  clear hW
  replace hT := hT.trans (hbx.mono hT.size)
  replace ka := ka.below hbx
  replace kb := kb.below hbx
  replace kR := kR.below hbx
  replace k0 := k0.below hbx
  replace k1 := k1.below hbx
  clear hr2
  (with_reducible refine (rsubb_any _ k0.bv k1.bv (fitz_lt (p1 * q2)) (fitz_lt (p2 * q1))).mono ?_)
  rintro e v3 ⟨rr3, rfl, hr3, hb9⟩
  replace hT := hT.trans (hb9.mono hT.size)
  replace ka := ka.below hb9
  replace kb := kb.below hb9
  replace kR := kR.below hb9
  replace k0 := k0.below hb9
  replace k1 := k1.below hb9
  replace k2 := k2.below hb9
  obtain ⟨E3, hE3⟩ : ∃ E, fite (fitz (p1 * q2) - fitz (p2 * q1)) = E := ⟨_, rfl⟩
  rw [hE3]
  clear hE3
  obtain ⟨x3, X3, y3, Y3, rfl⟩ := hr3.form
  obtain ⟨W4, hW, hbx, k3⟩ := box1 hr3
  have k2w := k2.below hbx
  have zk30 := k3.c0
  have zk31 := k3.c1
  have zk20 := k2w.c0
  have zk21 := k2w.c1
  rw [hW] at zk30 zk31 zk20 zk21
  go_wp2_with fail
  clear zk30 zk31 zk20 zk21 k2w
  rw [← hW]
  clear hW
  replace hT := hT.trans (hbx.mono hT.size)
  replace ka := ka.below hbx
  replace kb := kb.below hbx
  replace kR := kR.below hbx
  replace k0 := k0.below hbx
  replace k1 := k1.below hbx
  replace k2 := k2.below hbx
  clear hr3
  have hlt := kR.blk.lt
  (with_reducible refine (rmade_bad _ _ _ _ _ _ _ _ _ _ _ k3.bv k2.bv).mono ?_)
  rintro e u3 ⟨rfl, hb9⟩
  replace hT := hT.trans (hb9.mono hT.size)
  replace kR := kR.below hb9
  clear ka kb k0 k1 k2 k3
  have gR : w.heap.size ≤ w.heap.size + 1 + 1 := by omega
  have r0 := kR.blk.cell 0
  have r1 := kR.blk.cell 1
  have r2 := kR.blk.cell 2
  have r3 := kR.blk.cell 3
  have q0' := kR.blk.frozen 0
  have q1' := kR.blk.frozen 1
  have q2' := kR.blk.frozen 2
  have q3' := kR.blk.frozen 3
  simp at r0 r1 r2 r3
  have hbs := kR.blk.set4 (.int .i64 0) (.slice none 0 0) (.int .i64 0) (.slice none 0 0)
  have x0 := hbs.cell 0
  have x1 := hbs.cell 1
  have x2 := hbs.cell 2
  have x3 := hbs.cell 3
  simp at x0 x1 x2 x3
  go_wp2_with fail
  refine bodyPost_ret (v := .tuple #[.agg #[.int .i64 0, .slice none 0 0, .int .i64 0, .slice none 0 0], .int .i64 6]) (by simp [results, Tryz.results38, go_sem, x0, x1, x2, x3]) rfl ?_
  exact ⟨rfl, below_st4 hT gR _ _ _ _⟩

set_option maxRecDepth 100000 in
set_option maxHeartbeats 8000000 in
theorem rfsub_1 (s1 s2 s3 s4 : Int) (A1 A2 A3 A4 : Option Addr) (n1 d1 n2 d2 n3 d3 n4 d4 : Nat) (p1 q1 p2 q2 : Int) (w : World) (ha : FV w w.heap.size s1 A1 n1 d1 s2 A2 n2 d2 p1 q1) (hb : FV w w.heap.size s3 A3 n3 d3 s4 A4 n4 d4 p2 q2) (h1 : ab p1 < pw 60) (h2 : ab q1 < pw 60) (h3 : ab p2 < pw 60) (h4 : ab q2 < pw 60) (r1 : FR p1 q1) (r2 : FR p2 q2) (f0 : ab (p1 * q2) < pw 60) (f1 : ¬ ab (p2 * q1) < pw 60) :
    Calls Tryz.prog 38 #[.agg #[.int .i64 s1, .slice A1 n1 d1, .int .i64 s2, .slice A2 n2 d2], .agg #[.int .i64 s3, .slice A3 n3 d3, .int .i64 s4, .slice A4 n4 d4]] w fun e w' => e = .returned (.tuple #[.agg #[.int .i64 0, .slice none 0 0, .int .i64 0, .slice none 0 0], .int .i64 6]) ∧ Below w.heap.size w w' := by
  have H1 := Lib.hid h1; clear h1
  have H2 := Lib.hid h2; clear h2
  have H3 := Lib.hid h3; clear h3
  have H4 := Lib.hid h4; clear h4
  have F1 := Lib.hid r1; clear r1
  have F2 := Lib.hid r2; clear r2
  have G0 := Lib.hid f0; clear f0
  have G1 := Lib.hid f1; clear f1
  go_enter Tryz.func38, Tryz.ntmps38
  go_wp2_with fail
  obtain ⟨W0, hW, hbx, ka, kb, kR⟩ := fboxes2 ha hb
  rw [← hW]
  clear hW ha hb
  have hT := hbx
  have zka0 := ka.c0
  have zka1 := ka.c1
  have zka2 := ka.c2
  have zka3 := ka.c3
  go_wp2_with fail
  clear zka0 zka1 zka2 zka3
  (with_reducible refine (rfright_yes _ ka.fv H1.out H2.out F1.out).mono ?_)
  rintro e u1 ⟨rfl, hb9⟩
  replace hT := hT.trans (hb9.mono hT.size)
  replace ka := ka.below hb9
  replace kb := kb.below hb9
  replace kR := kR.below hb9
  have zkb0 := kb.c0
  have zkb1 := kb.c1
  have zkb2 := kb.c2
  have zkb3 := kb.c3
  go_wp2_with fail
  clear zkb0 zkb1 zkb2 zkb3
  (with_reducible refine (rfright_yes _ kb.fv H3.out H4.out F2.out).mono ?_)
  rintro e u2 ⟨rfl, hb9⟩
  replace hT := hT.trans (hb9.mono hT.size)
  replace ka := ka.below hb9
  replace kb := kb.below hb9
  replace kR := kR.below hb9
  have zka0 := ka.c0
  have zka1 := ka.c1
  have zkb2 := kb.c2
  have zkb3 := kb.c3
  go_wp2_with fail
  clear zka0 zka1 zkb2 zkb3
  (with_reducible refine (rmulb_any _ ka.fv.a kb.fv.b H1.out H4.out).mono ?_)
  rintro e v0 ⟨rr0, rfl, hr0, hb9⟩
  replace hT := hT.trans (hb9.mono hT.size)
  replace ka := ka.below hb9
  replace kb := kb.below hb9
  replace kR := kR.below hb9
  rw [(fits G0.out).1]
  rw [(fits G0.out).2] at hr0
  obtain ⟨x0, X0, y0, Y0, rfl⟩ := hr0.form
  obtain ⟨W1, hW, hbx, k0⟩ := box1 hr0
  have kbw := kb.below hbx
  have zkb0 := kbw.c0
  have zkb1 := kbw.c1
  have kaw := ka.below hbx
  have zka2 := kaw.c2
  have zka3 := kaw.c3
  rw [hW] at zkb0 zkb1 zka2 zka3
  go_wp2_with fail
  clear zkb0 zkb1 zka2 zka3
  clear kbw
  clear kaw
  rw [← hW]
  clear hW
  replace hT := hT.trans (hbx.mono hT.size)
  replace ka := ka.below hbx
  replace kb := kb.below hbx
  replace kR := kR.below hbx
  clear hr0
  (with_reducible refine (rmulb_any _ kb.fv.a ka.fv.b H3.out H2.out).mono ?_)
  rintro e v1 ⟨rr1, rfl, hr1, hb9⟩
  replace hT := hT.trans (hb9.mono hT.size)
  replace ka := ka.below hb9
  replace kb := kb.below hb9
  replace kR := kR.below hb9
  replace k0 := k0.below hb9
  rw [show fite (p2 * q1) = 6 from if_neg (Int.not_lt.2 G1.out)]
  obtain ⟨x1, X1, y1, Y1, rfl⟩ := hr1.form
  obtain ⟨W2, hW, hbx, k1⟩ := box1 hr1
  have kaw := ka.below hbx
  have zka2 := kaw.c2
  have zka3 := kaw.c3
  have kbw := kb.below hbx
  have zkb2 := kbw.c2
  have zkb3 := kbw.c3
  rw [hW] at zka2 zka3 zkb2 zkb3
  go_wp2_with fail
  clear zka2 zka3 zkb2 zkb3
  clear kaw
  clear kbw
  rw [← hW]
  clear hW
  replace hT := hT.trans (hbx.mono hT.size)
  replace ka := ka.below hbx
  replace kb := kb.below hbx
  replace kR := kR.below hbx
  replace k0 := k0.below hbx
  clear hr1
  (with_reducible refine (rmulb_any _ ka.fv.b kb.fv.b H2.out H4.out).mono ?_)
  rintro e v2 ⟨rr2, rfl, hr2, hb9⟩
  replace hT := hT.trans (hb9.mono hT.size)
  replace ka := ka.below hb9
  replace kb := kb.below hb9
  replace kR := kR.below hb9
  replace k0 := k0.below hb9
  replace k1 := k1.below hb9
  obtain ⟨E2, hE2⟩ : ∃ E, fite (q1 * q2) = E := ⟨_, rfl⟩
  rw [hE2]
  clear hE2
  obtain ⟨x2, X2, y2, Y2, rfl⟩ := hr2.form
  obtain ⟨W3, hW, hbx, k2⟩ := box1 hr2
  have k0w := k0.below hbx
  have zk00 := k0w.c0
  have zk01 := k0w.c1
  have k1w := k1.below hbx
  have zk10 := k1w.c0
  have zk11 := k1w.c1
  rw [hW] at zk00 zk01 zk10 zk11
  go_wp2_with fail
  clear zk00 zk01 zk10 zk11
  clear k0w
  clear k1w
  rw [← hW]
  clear hW
  replace hT := hT.trans (hbx.mono hT.size)
  replace ka := ka.below hbx
  replace kb := kb.below hbx
  replace kR := kR.below hbx
  replace k0 := k0.below hbx
  replace k1 := k1.below hbx
  clear hr2
  (with_reducible refine (rsubb_any _ k0.bv k1.bv G0.out (fitz_lt (p2 * q1))).mono ?_)
  rintro e v3 ⟨rr3, rfl, hr3, hb9⟩
  replace hT := hT.trans (hb9.mono hT.size)
  replace ka := ka.below hb9
  replace kb := kb.below hb9
  replace kR := kR.below hb9
  replace k0 := k0.below hb9
  replace k1 := k1.below hb9
  replace k2 := k2.below hb9
  obtain ⟨E3, hE3⟩ : ∃ E, fite ((p1 * q2) - fitz (p2 * q1)) = E := ⟨_, rfl⟩
  rw [hE3]
  clear hE3
  obtain ⟨x3, X3, y3, Y3, rfl⟩ := hr3.form
  obtain ⟨W4, hW, hbx, k3⟩ := box1 hr3
  have k2w := k2.below hbx
  have zk30 := k3.c0
  have zk31 := k3.c1
  have zk20 := k2w.c0
  have zk21 := k2w.c1
  rw [hW] at zk30 zk31 zk20 zk21
  go_wp2_with fail
  clear zk30 zk31 zk20 zk21 k2w
  rw [← hW]
  clear hW
  replace hT := hT.trans (hbx.mono hT.size)
  replace ka := ka.below hbx
  replace kb := kb.below hbx
  replace kR := kR.below hbx
  replace k0 := k0.below hbx
  replace k1 := k1.below hbx
  replace k2 := k2.below hbx
  clear hr3
  have hlt := kR.blk.lt
  (with_reducible refine (rmade_bad _ _ _ _ _ _ _ _ _ _ _ k3.bv k2.bv).mono ?_)
  rintro e u3 ⟨rfl, hb9⟩
  replace hT := hT.trans (hb9.mono hT.size)
  replace kR := kR.below hb9
  clear ka kb k0 k1 k2 k3
  have gR : w.heap.size ≤ w.heap.size + 1 + 1 := by omega
  have r0 := kR.blk.cell 0
  have r1 := kR.blk.cell 1
  have r2 := kR.blk.cell 2
  have r3 := kR.blk.cell 3
  have q0' := kR.blk.frozen 0
  have q1' := kR.blk.frozen 1
  have q2' := kR.blk.frozen 2
  have q3' := kR.blk.frozen 3
  simp at r0 r1 r2 r3
  have hbs := kR.blk.set4 (.int .i64 0) (.slice none 0 0) (.int .i64 0) (.slice none 0 0)
  have x0 := hbs.cell 0
  have x1 := hbs.cell 1
  have x2 := hbs.cell 2
  have x3 := hbs.cell 3
  simp at x0 x1 x2 x3
  go_wp2_with fail
  refine bodyPost_ret (v := .tuple #[.agg #[.int .i64 0, .slice none 0 0, .int .i64 0, .slice none 0 0], .int .i64 6]) (by simp [results, Tryz.results38, go_sem, x0, x1, x2, x3]) rfl ?_
  exact ⟨rfl, below_st4 hT gR _ _ _ _⟩

set_option maxRecDepth 100000 in
set_option maxHeartbeats 8000000 in
theorem rfsub_2 (s1 s2 s3 s4 : Int) (A1 A2 A3 A4 : Option Addr) (n1 d1 n2 d2 n3 d3 n4 d4 : Nat) (p1 q1 p2 q2 : Int) (w : World) (ha : FV w w.heap.size s1 A1 n1 d1 s2 A2 n2 d2 p1 q1) (hb : FV w w.heap.size s3 A3 n3 d3 s4 A4 n4 d4 p2 q2) (h1 : ab p1 < pw 60) (h2 : ab q1 < pw 60) (h3 : ab p2 < pw 60) (h4 : ab q2 < pw 60) (r1 : FR p1 q1) (r2 : FR p2 q2) (f0 : ab (p1 * q2) < pw 60) (f1 : ab (p2 * q1) < pw 60) (f2 : ¬ ab (q1 * q2) < pw 60) :
    Calls Tryz.prog 38 #[.agg #[.int .i64 s1, .slice A1 n1 d1, .int .i64 s2, .slice A2 n2 d2], .agg #[.int .i64 s3, .slice A3 n3 d3, .int .i64 s4, .slice A4 n4 d4]] w fun e w' => e = .returned (.tuple #[.agg #[.int .i64 0, .slice none 0 0, .int .i64 0, .slice none 0 0], .int .i64 6]) ∧ Below w.heap.size w w' := by
  have H1 := Lib.hid h1; clear h1
  have H2 := Lib.hid h2; clear h2
  have H3 := Lib.hid h3; clear h3
  have H4 := Lib.hid h4; clear h4
  have F1 := Lib.hid r1; clear r1
  have F2 := Lib.hid r2; clear r2
  have G0 := Lib.hid f0; clear f0
  have G1 := Lib.hid f1; clear f1
  have G2 := Lib.hid f2; clear f2
  go_enter Tryz.func38, Tryz.ntmps38
  go_wp2_with fail
  obtain ⟨W0, hW, hbx, ka, kb, kR⟩ := fboxes2 ha hb
  rw [← hW]
  clear hW ha hb
  have hT := hbx
  have zka0 := ka.c0
  have zka1 := ka.c1
  have zka2 := ka.c2
  have zka3 := ka.c3
  go_wp2_with fail
  clear zka0 zka1 zka2 zka3
  (with_reducible refine (rfright_yes _ ka.fv H1.out H2.out F1.out).mono ?_)
  rintro e u1 ⟨rfl, hb9⟩
  replace hT := hT.trans (hb9.mono hT.size)
  replace ka := ka.below hb9
  replace kb := kb.below hb9
  replace kR := kR.below hb9
  have zkb0 := kb.c0
  have zkb1 := kb.c1
  have zkb2 := kb.c2
  have zkb3 := kb.c3
  go_wp2_with fail
  clear zkb0 zkb1 zkb2 zkb3
  (with_reducible refine (rfright_yes _ kb.fv H3.out H4.out F2.out).mono ?_)
  rintro e u2 ⟨rfl, hb9⟩
  replace hT := hT.trans (hb9.mono hT.size)
  replace ka := ka.below hb9
  replace kb := kb.below hb9
  replace kR := kR.below hb9
  have zka0 := ka.c0
  have zka1 := ka.c1
  have zkb2 := kb.c2
  have zkb3 := kb.c3
  go_wp2_with fail
  clear zka0 zka1 zkb2 zkb3
  (with_reducible refine (rmulb_any _ ka.fv.a kb.fv.b H1.out H4.out).mono ?_)
  rintro e v0 ⟨rr0, rfl, hr0, hb9⟩
  replace hT := hT.trans (hb9.mono hT.size)
  replace ka := ka.below hb9
  replace kb := kb.below hb9
  replace kR := kR.below hb9
  rw [(fits G0.out).1]
  rw [(fits G0.out).2] at hr0
  obtain ⟨x0, X0, y0, Y0, rfl⟩ := hr0.form
  obtain ⟨W1, hW, hbx, k0⟩ := box1 hr0
  have kbw := kb.below hbx
  have zkb0 := kbw.c0
  have zkb1 := kbw.c1
  have kaw := ka.below hbx
  have zka2 := kaw.c2
  have zka3 := kaw.c3
  rw [hW] at zkb0 zkb1 zka2 zka3
  go_wp2_with fail
  clear zkb0 zkb1 zka2 zka3
  clear kbw
  clear kaw
  rw [← hW]
  clear hW
  replace hT := hT.trans (hbx.mono hT.size)
  replace ka := ka.below hbx
  replace kb := kb.below hbx
  replace kR := kR.below hbx
  clear hr0
  (with_reducible refine (rmulb_any _ kb.fv.a ka.fv.b H3.out H2.out).mono ?_)
  rintro e v1 ⟨rr1, rfl, hr1, hb9⟩
  replace hT := hT.trans (hb9.mono hT.size)
  replace ka := ka.below hb9
  replace kb := kb.below hb9
  replace kR := kR.below hb9
  replace k0 := k0.below hb9
  rw [(fits G1.out).1]
  rw [(fits G1.out).2] at hr1
  obtain ⟨x1, X1, y1, Y1, rfl⟩ := hr1.form
  obtain ⟨W2, hW, hbx, k1⟩ := box1 hr1
  have kaw := ka.below hbx
  have zka2 := kaw.c2
  have zka3 := kaw.c3
  have kbw := kb.below hbx
  have zkb2 := kbw.c2
  have zkb3 := kbw.c3
  rw [hW] at zka2 zka3 zkb2 zkb3
  go_wp2_with fail
  clear zka2 zka3 zkb2 zkb3
  clear kaw
  clear kbw
  rw [← hW]
  clear hW
  replace hT := hT.trans (hbx.mono hT.size)
  replace ka := ka.below hbx
  replace kb := kb.below hbx
  replace kR := kR.below hbx
  replace k0 := k0.below hbx
  clear hr1
  (with_reducible refine (rmulb_any _ ka.fv.b kb.fv.b H2.out H4.out).mono ?_)
  rintro e v2 ⟨rr2, rfl, hr2, hb9⟩
  replace hT := hT.trans (hb9.mono hT.size)
  replace ka := ka.below hb9
  replace kb := kb.below hb9
  replace kR := kR.below hb9
  replace k0 := k0.below hb9
  replace k1 := k1.below hb9
  rw [show fite (q1 * q2) = 6 from if_neg (Int.not_lt.2 G2.out)]
  obtain ⟨x2, X2, y2, Y2, rfl⟩ := hr2.form
  obtain ⟨W3, hW, hbx, k2⟩ := box1 hr2
  have k0w := k0.below hbx
  have zk00 := k0w.c0
  have zk01 := k0w.c1
  have k1w := k1.below hbx
  have zk10 := k1w.c0
  have zk11 := k1w.c1
  rw [hW] at zk00 zk01 zk10 zk11
  go_wp2_with fail
  clear zk00 zk01 zk10 zk11
  clear k0w
  clear k1w
  rw [← hW]
  clear hW
  replace hT := hT.trans (hbx.mono hT.size)
  replace ka := ka.below hbx
  replace kb := kb.below hbx
  replace kR := kR.below hbx
  replace k0 := k0.below hbx
  replace k1 := k1.below hbx
  clear hr2
  (with_reducible refine (rsubb_any _ k0.bv k1.bv G0.out G1.out).mono ?_)
  rintro e v3 ⟨rr3, rfl, hr3, hb9⟩
  replace hT := hT.trans (hb9.mono hT.size)
  replace ka := ka.below hb9
  replace kb := kb.below hb9
  replace kR := kR.below hb9
  replace k0 := k0.below hb9
  replace k1 := k1.below hb9
  replace k2 := k2.below hb9
  obtain ⟨E3, hE3⟩ : ∃ E, fite ((p1 * q2) - (p2 * q1)) = E := ⟨_, rfl⟩
  rw [hE3]
  clear hE3
  obtain ⟨x3, X3, y3, Y3, rfl⟩ := hr3.form
  obtain ⟨W4, hW, hbx, k3⟩ := box1 hr3
  have k2w := k2.below hbx
  have zk30 := k3.c0
  have zk31 := k3.c1
  have zk20 := k2w.c0
  have zk21 := k2w.c1
  rw [hW] at zk30 zk31 zk20 zk21
  go_wp2_with fail
  clear zk30 zk31 zk20 zk21 k2w
  rw [← hW]
  clear hW
  replace hT := hT.trans (hbx.mono hT.size)
  replace ka := ka.below hbx
  replace kb := kb.below hbx
  replace kR := kR.below hbx
  replace k0 := k0.below hbx
  replace k1 := k1.below hbx
  replace k2 := k2.below hbx
  clear hr3
  have hlt := kR.blk.lt
  (with_reducible refine (rmade_bad _ _ _ _ _ _ _ _ _ _ _ k3.bv k2.bv).mono ?_)
  rintro e u3 ⟨rfl, hb9⟩
  replace hT := hT.trans (hb9.mono hT.size)
  replace kR := kR.below hb9
  clear ka kb k0 k1 k2 k3
  have gR : w.heap.size ≤ w.heap.size + 1 + 1 := by omega
  have r0 := kR.blk.cell 0
  have r1 := kR.blk.cell 1
  have r2 := kR.blk.cell 2
  have r3 := kR.blk.cell 3
  have q0' := kR.blk.frozen 0
  have q1' := kR.blk.frozen 1
  have q2' := kR.blk.frozen 2
  have q3' := kR.blk.frozen 3
  simp at r0 r1 r2 r3
  have hbs := kR.blk.set4 (.int .i64 0) (.slice none 0 0) (.int .i64 0) (.slice none 0 0)
  have x0 := hbs.cell 0
  have x1 := hbs.cell 1
  have x2 := hbs.cell 2
  have x3 := hbs.cell 3
  simp at x0 x1 x2 x3
  go_wp2_with fail
  refine bodyPost_ret (v := .tuple #[.agg #[.int .i64 0, .slice none 0 0, .int .i64 0, .slice none 0 0], .int .i64 6]) (by simp [results, Tryz.results38, go_sem, x0, x1, x2, x3]) rfl ?_
  exact ⟨rfl, below_st4 hT gR _ _ _ _⟩

set_option maxRecDepth 100000 in
set_option maxHeartbeats 8000000 in
theorem rfsub_3 (s1 s2 s3 s4 : Int) (A1 A2 A3 A4 : Option Addr) (n1 d1 n2 d2 n3 d3 n4 d4 : Nat) (p1 q1 p2 q2 : Int) (w : World) (ha : FV w w.heap.size s1 A1 n1 d1 s2 A2 n2 d2 p1 q1) (hb : FV w w.heap.size s3 A3 n3 d3 s4 A4 n4 d4 p2 q2) (h1 : ab p1 < pw 60) (h2 : ab q1 < pw 60) (h3 : ab p2 < pw 60) (h4 : ab q2 < pw 60) (r1 : FR p1 q1) (r2 : FR p2 q2) (f0 : ab (p1 * q2) < pw 60) (f1 : ab (p2 * q1) < pw 60) (f2 : ab (q1 * q2) < pw 60) (f3 : ¬ ab (p1 * q2 - p2 * q1) < pw 60) :
    Calls Tryz.prog 38 #[.agg #[.int .i64 s1, .slice A1 n1 d1, .int .i64 s2, .slice A2 n2 d2], .agg #[.int .i64 s3, .slice A3 n3 d3, .int .i64 s4, .slice A4 n4 d4]] w fun e w' => e = .returned (.tuple #[.agg #[.int .i64 0, .slice none 0 0, .int .i64 0, .slice none 0 0], .int .i64 6]) ∧ Below w.heap.size w w' := by
  have H1 := Lib.hid h1; clear h1
  have H2 := Lib.hid h2; clear h2
  have H3 := Lib.hid h3; clear h3
  have H4 := Lib.hid h4; clear h4
  have F1 := Lib.hid r1; clear r1
  have F2 := Lib.hid r2; clear r2
  have G0 := Lib.hid f0; clear f0
  have G1 := Lib.hid f1; clear f1
  have G2 := Lib.hid f2; clear f2
  have G3 := Lib.hid f3; clear f3
  go_enter Tryz.func38, Tryz.ntmps38
  go_wp2_with fail
  obtain ⟨W0, hW, hbx, ka, kb, kR⟩ := fboxes2 ha hb
  rw [← hW]
  clear hW ha hb
  have hT := hbx
  have zka0 := ka.c0
  have zka1 := ka.c1
  have zka2 := ka.c2
  have zka3 := ka.c3
  go_wp2_with fail
  clear zka0 zka1 zka2 zka3
  (with_reducible refine (rfright_yes _ ka.fv H1.out H2.out F1.out).mono ?_)
  rintro e u1 ⟨rfl, hb9⟩
  replace hT := hT.trans (hb9.mono hT.size)
  replace ka := ka.below hb9
  replace kb := kb.below hb9
  replace kR := kR.below hb9
  have zkb0 := kb.c0
  have zkb1 := kb.c1
  have zkb2 := kb.c2
  have zkb3 := kb.c3
  go_wp2_with fail
  clear zkb0 zkb1 zkb2 zkb3
  (with_reducible refine (rfright_yes _ kb.fv H3.out H4.out F2.out).mono ?_)
  rintro e u2 ⟨rfl, hb9⟩
  replace hT := hT.trans (hb9.mono hT.size)
  replace ka := ka.below hb9
  replace kb := kb.below hb9
  replace kR := kR.below hb9
  have zka0 := ka.c0
  have zka1 := ka.c1
  have zkb2 := kb.c2
  have zkb3 := kb.c3
  go_wp2_with fail
  clear zka0 zka1 zkb2 zkb3
  (with_reducible refine (rmulb_any _ ka.fv.a kb.fv.b H1.out H4.out).mono ?_)
  rintro e v0 ⟨rr0, rfl, hr0, hb9⟩
  replace hT := hT.trans (hb9.mono hT.size)
  replace ka := ka.below hb9
  replace kb := kb.below hb9
  replace kR := kR.below hb9
  rw [(fits G0.out).1]
  rw [(fits G0.out).2] at hr0
  obtain ⟨x0, X0, y0, Y0, rfl⟩ := hr0.form
  obtain ⟨W1, hW, hbx, k0⟩ := box1 hr0
  have kbw := kb.below hbx
  have zkb0 := kbw.c0
  have zkb1 := kbw.c1
  have kaw := ka.below hbx
  have zka2 := kaw.c2
  have zka3 := kaw.c3
  rw [hW] at zkb0 zkb1 zka2 zka3
  go_wp2_with fail
  clear zkb0 zkb1 zka2 zka3
  clear kbw
  clear kaw
  rw [← hW]
  clear hW
  replace hT := hT.trans (hbx.mono hT.size)
  replace ka := ka.below hbx
  replace kb := kb.below hbx
  replace kR := kR.below hbx
  clear hr0
  (with_reducible refine (rmulb_any _ kb.fv.a ka.fv.b H3.out H2.out).mono ?_)
  rintro e v1 ⟨rr1, rfl, hr1, hb9⟩
  replace hT := hT.trans (hb9.mono hT.size)
  replace ka := ka.below hb9
  replace kb := kb.below hb9
  replace kR := kR.below hb9
  replace k0 := k0.below hb9
  rw [(fits G1.out).1]
  rw [(fits G1.out).2] at hr1
  obtain ⟨x1, X1, y1, Y1, rfl⟩ := hr1.form
  obtain ⟨W2, hW, hbx, k1⟩ := box1 hr1
  have kaw := ka.below hbx
  have zka2 := kaw.c2
  have zka3 := kaw.c3
  have kbw := kb.below hbx
  have zkb2 := kbw.c2
  have zkb3 := kbw.c3
  rw [hW] at zka2 zka3 zkb2 zkb3
  go_wp2_with fail
  clear zka2 zka3 zkb2 zkb3
  clear kaw
  clear kbw
  rw [← hW]
  clear hW
  replace hT := hT.trans (hbx.mono hT.size)
  replace ka := ka.below hbx
  replace kb := kb.below hbx
  replace kR := kR.below hbx
  replace k0 := k0.below hbx
  clear hr1
  (with_reducible refine (rmulb_any _ ka.fv.b kb.fv.b H2.out H4.out).mono ?_)
  rintro e v2 ⟨rr2, rfl, hr2, hb9⟩
  replace hT := hT.trans (hb9.mono hT.size)
  replace ka := ka.below hb9
  replace kb := kb.below hb9
  replace kR := kR.below hb9
  replace k0 := k0.below hb9
  replace k1 := k1.below hb9
  rw [(fits G2.out).1]
  rw [(fits G2.out).2] at hr2
  obtain ⟨x2, X2, y2, Y2, rfl⟩ := hr2.form
  obtain ⟨W3, hW, hbx, k2⟩ := box1 hr2
  have k0w := k0.below hbx
  have zk00 := k0w.c0
  have zk01 := k0w.c1
  have k1w := k1.below hbx
  have zk10 := k1w.c0
  have zk11 := k1w.c1
  rw [hW] at zk00 zk01 zk10 zk11
  go_wp2_with fail
  clear zk00 zk01 zk10 zk11
  clear k0w
  clear k1w
  rw [← hW]
  clear hW
  replace hT := hT.trans (hbx.mono hT.size)
  replace ka := ka.below hbx
  replace kb := kb.below hbx
  replace kR := kR.below hbx
  replace k0 := k0.below hbx
  replace k1 := k1.below hbx
  clear hr2
  (with_reducible refine (rsubb_any _ k0.bv k1.bv G0.out G1.out).mono ?_)
  rintro e v3 ⟨rr3, rfl, hr3, hb9⟩
  replace hT := hT.trans (hb9.mono hT.size)
  replace ka := ka.below hb9
  replace kb := kb.below hb9
  replace kR := kR.below hb9
  replace k0 := k0.below hb9
  replace k1 := k1.below hb9
  replace k2 := k2.below hb9
  rw [show fite (p1 * q2 - p2 * q1) = 6 from if_neg (Int.not_lt.2 G3.out)]
  obtain ⟨x3, X3, y3, Y3, rfl⟩ := hr3.form
  obtain ⟨W4, hW, hbx, k3⟩ := box1 hr3
  have k2w := k2.below hbx
  have zk30 := k3.c0
  have zk31 := k3.c1
  have zk20 := k2w.c0
  have zk21 := k2w.c1
  rw [hW] at zk30 zk31 zk20 zk21
  go_wp2_with fail
  clear zk30 zk31 zk20 zk21 k2w
  rw [← hW]
  clear hW
  replace hT := hT.trans (hbx.mono hT.size)
  replace ka := ka.below hbx
  replace kb := kb.below hbx
  replace kR := kR.below hbx
  replace k0 := k0.below hbx
  replace k1 := k1.below hbx
  replace k2 := k2.below hbx
  clear hr3
  have hlt := kR.blk.lt
  (with_reducible refine (rmade_bad _ _ _ _ _ _ _ _ _ _ _ k3.bv k2.bv).mono ?_)
  rintro e u3 ⟨rfl, hb9⟩
  replace hT := hT.trans (hb9.mono hT.size)
  replace kR := kR.below hb9
  clear ka kb k0 k1 k2 k3
  have gR : w.heap.size ≤ w.heap.size + 1 + 1 := by omega
  have r0 := kR.blk.cell 0
  have r1 := kR.blk.cell 1
  have r2 := kR.blk.cell 2
  have r3 := kR.blk.cell 3
  have q0' := kR.blk.frozen 0
  have q1' := kR.blk.frozen 1
  have q2' := kR.blk.frozen 2
  have q3' := kR.blk.frozen 3
  simp at r0 r1 r2 r3
  have hbs := kR.blk.set4 (.int .i64 0) (.slice none 0 0) (.int .i64 0) (.slice none 0 0)
  have x0 := hbs.cell 0
  have x1 := hbs.cell 1
  have x2 := hbs.cell 2
  have x3 := hbs.cell 3
  simp at x0 x1 x2 x3
  go_wp2_with fail
  refine bodyPost_ret (v := .tuple #[.agg #[.int .i64 0, .slice none 0 0, .int .i64 0, .slice none 0 0], .int .i64 6]) (by simp [results, Tryz.results38, go_sem, x0, x1, x2, x3]) rfl ?_
  exact ⟨rfl, below_st4 hT gR _ _ _ _⟩

set_option maxRecDepth 100000 in
set_option maxHeartbeats 8000000 in
theorem rfsub_fit (s1 s2 s3 s4 : Int) (A1 A2 A3 A4 : Option Addr) (n1 d1 n2 d2 n3 d3 n4 d4 : Nat) (p1 q1 p2 q2 : Int) (w : World) (ha : FV w w.heap.size s1 A1 n1 d1 s2 A2 n2 d2 p1 q1) (hb : FV w w.heap.size s3 A3 n3 d3 s4 A4 n4 d4 p2 q2) (h1 : ab p1 < pw 60) (h2 : ab q1 < pw 60) (h3 : ab p2 < pw 60) (h4 : ab q2 < pw 60) (r1 : FR p1 q1) (r2 : FR p2 q2) (f0 : ab (p1 * q2) < pw 60) (f1 : ab (p2 * q1) < pw 60) (f2 : ab (q1 * q2) < pw 60) (f3 : ab (p1 * q2 - p2 * q1) < pw 60) :
    Calls Tryz.prog 38 #[.agg #[.int .i64 s1, .slice A1 n1 d1, .int .i64 s2, .slice A2 n2 d2], .agg #[.int .i64 s3, .slice A3 n3 d3, .int .i64 s4, .slice A4 n4 d4]] w (NewP (p1 * q2 - p2 * q1) (q1 * q2) w) := by
  have H1 := Lib.hid h1; clear h1
  have H2 := Lib.hid h2; clear h2
  have H3 := Lib.hid h3; clear h3
  have H4 := Lib.hid h4; clear h4
  have F1 := Lib.hid r1; clear r1
  have F2 := Lib.hid r2; clear r2
  have G0 := Lib.hid f0; clear f0
  have G1 := Lib.hid f1; clear f1
  have G2 := Lib.hid f2; clear f2
  have G3 := Lib.hid f3; clear f3
  unfold NewP
  obtain ⟨E, hE⟩ : ∃ E, newE (q1 * q2) = E := ⟨_, rfl⟩
  obtain ⟨P, hP⟩ : ∃ E, newN (p1 * q2 - p2 * q1) (q1 * q2) = E := ⟨_, rfl⟩
  obtain ⟨Q, hQ⟩ : ∃ E, newD (p1 * q2 - p2 * q1) (q1 * q2) = E := ⟨_, rfl⟩
  rw [hE, hP, hQ]
  have HE := Lib.hid hE; clear hE
  have HP := Lib.hid hP; clear hP
  have HQ := Lib.hid hQ; clear hQ
  go_enter Tryz.func38, Tryz.ntmps38
  go_wp2_with fail
  obtain ⟨W0, hW, hbx, ka, kb, kR⟩ := fboxes2 ha hb
  rw [← hW]
  clear hW ha hb
  have hT := hbx
  have zka0 := ka.c0
  have zka1 := ka.c1
  have zka2 := ka.c2
  have zka3 := ka.c3
  go_wp2_with fail
  clear zka0 zka1 zka2 zka3
  (with_reducible refine (rfright_yes _ ka.fv H1.out H2.out F1.out).mono ?_)
  rintro e u1 ⟨rfl, hb9⟩
  replace hT := hT.trans (hb9.mono hT.size)
  replace ka := ka.below hb9
  replace kb := kb.below hb9
  replace kR := kR.below hb9
  have zkb0 := kb.c0
  have zkb1 := kb.c1
  have zkb2 := kb.c2
  have zkb3 := kb.c3
  go_wp2_with fail
  clear zkb0 zkb1 zkb2 zkb3
  (with_reducible refine (rfright_yes _ kb.fv H3.out H4.out F2.out).mono ?_)
  rintro e u2 ⟨rfl, hb9⟩
  replace hT := hT.trans (hb9.mono hT.size)
  replace ka := ka.below hb9
  replace kb := kb.below hb9
  replace kR := kR.below hb9
  have zka0 := ka.c0
  have zka1 := ka.c1
  have zkb2 := kb.c2
  have zkb3 := kb.c3
  go_wp2_with fail
  clear zka0 zka1 zkb2 zkb3
  (with_reducible refine (rmulb_any _ ka.fv.a kb.fv.b H1.out H4.out).mono ?_)
  rintro e v0 ⟨rr0, rfl, hr0, hb9⟩
  replace hT := hT.trans (hb9.mono hT.size)
  replace ka := ka.below hb9
  replace kb := kb.below hb9
  replace kR := kR.below hb9
  rw [(fits G0.out).1]
  rw [(fits G0.out).2] at hr0
  obtain ⟨x0, X0, y0, Y0, rfl⟩ := hr0.form
  obtain ⟨W1, hW, hbx, k0⟩ := box1 hr0
  have kbw := kb.below hbx
  have zkb0 := kbw.c0
  have zkb1 := kbw.c1
  have kaw := ka.below hbx
  have zka2 := kaw.c2
  have zka3 := kaw.c3
  rw [hW] at zkb0 zkb1 zka2 zka3
  go_wp2_with fail
  clear zkb0 zkb1 zka2 zka3
  clear kbw
  clear kaw
  rw [← hW]
  clear hW
  replace hT := hT.trans (hbx.mono hT.size)
  replace ka := ka.below hbx
  replace kb := kb.below hbx
  replace kR := kR.below hbx
  clear hr0
  (with_reducible refine (rmulb_any _ kb.fv.a ka.fv.b H3.out H2.out).mono ?_)
  rintro e v1 ⟨rr1, rfl, hr1, hb9⟩
  replace hT := hT.trans (hb9.mono hT.size)
  replace ka := ka.below hb9
  replace kb := kb.below hb9
  replace kR := kR.below hb9
  replace k0 := k0.below hb9
  rw [(fits G1.out).1]
  rw [(fits G1.out).2] at hr1
  obtain ⟨x1, X1, y1, Y1, rfl⟩ := hr1.form
  obtain ⟨W2, hW, hbx, k1⟩ := box1 hr1
  have kaw := ka.below hbx
  have zka2 := kaw.c2
  have zka3 := kaw.c3
  have kbw := kb.below hbx
  have zkb2 := kbw.c2
  have zkb3 := kbw.c3
  rw [hW] at zka2 zka3 zkb2 zkb3
  go_wp2_with fail
  clear zka2 zka3 zkb2 zkb3
  clear kaw
  clear kbw
  rw [← hW]
  clear hW
  replace hT := hT.trans (hbx.mono hT.size)
  replace ka := ka.below hbx
  replace kb := kb.below hbx
  replace kR := kR.below hbx
  replace k0 := k0.below hbx
  clear hr1
  (with_reducible refine (rmulb_any _ ka.fv.b kb.fv.b H2.out H4.out).mono ?_)
  rintro e v2 ⟨rr2, rfl, hr2, hb9⟩
  replace hT := hT.trans (hb9.mono hT.size)
  replace ka := ka.below hb9
  replace kb := kb.below hb9
  replace kR := kR.below hb9
  replace k0 := k0.below hb9
  replace k1 := k1.below hb9
  rw [(fits G2.out).1]
  rw [(fits G2.out).2] at hr2
  obtain ⟨x2, X2, y2, Y2, rfl⟩ := hr2.form
  obtain ⟨W3, hW, hbx, k2⟩ := box1 hr2
  have k0w := k0.below hbx
  have zk00 := k0w.c0
  have zk01 := k0w.c1
  have k1w := k1.below hbx
  have zk10 := k1w.c0
  have zk11 := k1w.c1
  rw [hW] at zk00 zk01 zk10 zk11
  go_wp2_with fail
  clear zk00 zk01 zk10 zk11
  clear k0w
  clear k1w
  rw [← hW]
  clear hW
  replace hT := hT.trans (hbx.mono hT.size)
  replace ka := ka.below hbx
  replace kb := kb.below hbx
  replace kR := kR.below hbx
  replace k0 := k0.below hbx
  replace k1 := k1.below hbx
  clear hr2
  (with_reducible refine (rsubb_any _ k0.bv k1.bv G0.out G1.out).mono ?_)
  rintro e v3 ⟨rr3, rfl, hr3, hb9⟩
  replace hT := hT.trans (hb9.mono hT.size)
  replace ka := ka.below hb9
  replace kb := kb.below hb9
  replace kR := kR.below hb9
  replace k0 := k0.below hb9
  replace k1 := k1.below hb9
  replace k2 := k2.below hb9
  rw [(fits G3.out).1]
  rw [(fits G3.out).2] at hr3
  obtain ⟨x3, X3, y3, Y3, rfl⟩ := hr3.form
  obtain ⟨W4, hW, hbx, k3⟩ := box1 hr3
  have k2w := k2.below hbx
  have zk30 := k3.c0
  have zk31 := k3.c1
  have zk20 := k2w.c0
  have zk21 := k2w.c1
  rw [hW] at zk30 zk31 zk20 zk21
  go_wp2_with fail
  clear zk30 zk31 zk20 zk21 k2w
  rw [← hW]
  clear hW
  replace hT := hT.trans (hbx.mono hT.size)
  replace ka := ka.below hbx
  replace kb := kb.below hbx
  replace kR := kR.below hbx
  replace k0 := k0.below hbx
  replace k1 := k1.below hbx
  replace k2 := k2.below hbx
  clear hr3
  have hlt := kR.blk.lt
  (with_reducible refine (rmade_ok _ _ _ _ _ _ _ _ _ _ _ k3.bv k2.bv G3.out G2.out).mono ?_)
  rintro e u3 ⟨rr, rfl, hrr, hb9⟩
  replace hT := hT.trans (hb9.mono hT.size)
  replace kR := kR.below hb9
  clear ka kb k0 k1 k2 k3
  rw [HP.out, HQ.out] at hrr
  rw [HE.out]
  obtain ⟨t1, C1, m1, e1, t2, C2, m2, e2, rfl, g1, g2⟩ := hrr
  have gR : w.heap.size ≤ w.heap.size + 1 + 1 := by omega
  have r0 := kR.blk.cell 0
  have r1 := kR.blk.cell 1
  have r2 := kR.blk.cell 2
  have r3 := kR.blk.cell 3
  have q0' := kR.blk.frozen 0
  have q1' := kR.blk.frozen 1
  have q2' := kR.blk.frozen 2
  have q3' := kR.blk.frozen 3
  simp at r0 r1 r2 r3
  have hbs := kR.blk.set4 (.int .i64 t1) (.slice C1 m1 e1) (.int .i64 t2) (.slice C2 m2 e2)
  have x0 := hbs.cell 0
  have x1 := hbs.cell 1
  have x2 := hbs.cell 2
  have x3 := hbs.cell 3
  simp at x0 x1 x2 x3
  go_wp2_with fail
  refine bodyPost_ret (v := .tuple #[.agg #[.int .i64 t1, .slice C1 m1 e1, .int .i64 t2, .slice C2 m2 e2], .int .i64 E]) (by simp [results, Tryz.results38, go_sem, x0, x1, x2, x3]) rfl ?_
  exact ⟨_, rfl, FO.mk2 ((g1.far4 hlt _ _ _ _).mono (by omega)) ((g2.far4 hlt _ _ _ _).mono (by omega)), below_st4 hT gR _ _ _ _⟩

end Go.Proofs.YtkjpfnbdlbnbkaaGreatDoor

namespace Go.Proofs.YtkjpfnbdlbnbkaaGreatDoor
open Go.RowKit

theorem bbox4 {w : World} {s1 s2 s3 s4 : Int} {A1 A2 A3 A4 : Option Addr} {n1 d1 n2 d2 n3 d3 n4 d4 : Nat} {p q r s : Int} (h1 : BV w w.heap.size (.agg #[.int .i64 s1, .slice A1 n1 d1]) p) (h2 : BV w w.heap.size (.agg #[.int .i64 s2, .slice A2 n2 d2]) q) (h3 : BV w w.heap.size (.agg #[.int .i64 s3, .slice A3 n3 d3]) r) (h4 : BV w w.heap.size (.agg #[.int .i64 s4, .slice A4 n4 d4]) s) :
    ∃ W, W = (((w.alloc (.cells #[.int .i64 s1, .slice A1 n1 d1] 24)).alloc (.cells #[.int .i64 s2, .slice A2 n2 d2] 24)).alloc (.cells #[.int .i64 s3, .slice A3 n3 d3] 24)).alloc (.cells #[.int .i64 s4, .slice A4 n4 d4] 24) ∧ Below w.heap.size w W ∧
      Bx W w.heap.size s1 A1 n1 d1 p ∧ Bx W (w.heap.size + 1) s2 A2 n2 d2 q ∧ Bx W (w.heap.size + 1 + 1) s3 A3 n3 d3 r ∧ Bx W (w.heap.size + 1 + 1 + 1) s4 A4 n4 d4 s := by
  obtain ⟨W, hW, hb, k1, k2, k3, k4, _⟩ := boxes4 w #[.int .i64 s1, .slice A1 n1 d1] #[.int .i64 s2, .slice A2 n2 d2] #[.int .i64 s3, .slice A3 n3 d3] #[.int .i64 s4, .slice A4 n4 d4]
  exact ⟨W, hW, hb, ⟨k1, h1.later hb⟩, ⟨k2, h2.later hb⟩, ⟨k3, h3.later hb⟩, ⟨k4, h4.later hb⟩⟩

theorem qr_rest {p q x u : Int} (hq : 0 < q) (h : QR p q x u) : 0 ≤ u ∧ u < q := by
  obtain ⟨_, h1, h2, _⟩ := h
  rcases sgn_three u with ⟨h3, h4⟩ | ⟨h3, h4⟩ | ⟨h3, h4⟩ <;> rcases h1 with h1 | h1 <;> (try rw [h4, sgn_pos hq] at h1) <;> unfold ab at h2 <;> omega

set_option maxRecDepth 100000 in
set_option maxHeartbeats 8000000 in
theorem rbelow_any (N : Nat) : ∀ (s1 s2 s3 s4 : Int) (A1 A2 A3 A4 : Option Addr) (n1 d1 n2 d2 n3 d3 n4 d4 : Nat) (p q r s : Int) (w : World) (_ : BV w w.heap.size (.agg #[.int .i64 s1, .slice A1 n1 d1]) p) (_ : BV w w.heap.size (.agg #[.int .i64 s2, .slice A2 n2 d2]) q) (_ : BV w w.heap.size (.agg #[.int .i64 s3, .slice A3 n3 d3]) r) (_ : BV w w.heap.size (.agg #[.int .i64 s4, .slice A4 n4 d4]) s)
    (_ : ab p < pw 60) (_ : ab q < pw 60) (_ : ab r < pw 60) (_ : ab s < pw 60) (_ : 0 < q) (_ : 0 < s) (_ : (q + s).toNat ≤ N),
    Calls Tryz.prog 97 #[.agg #[.int .i64 s1, .slice A1 n1 d1], .agg #[.int .i64 s2, .slice A2 n2 d2], .agg #[.int .i64 s3, .slice A3 n3 d3], .agg #[.int .i64 s4, .slice A4 n4 d4]] w fun e w' => e = .returned (.int .i64 (ordI p q r s)) ∧ Below w.heap.size w w' := by
  induction N with
  | zero => intro s1 s2 s3 s4 A1 A2 A3 A4 n1 d1 n2 d2 n3 d3 n4 d4 p q r s w _ _ _ _ _ _ _ _ h1 h2 h3; omega
  | succ N ih =>
  intro s1 s2 s3 s4 A1 A2 A3 A4 n1 d1 n2 d2 n3 d3 n4 d4 p q r s w h1 h2 h3 h4 hp hq hr hs hq0 hs0 hN
  have IH := Lib.hid ih; clear ih
  obtain ⟨G, hG⟩ : ∃ G, ordI p q r s = G := ⟨_, rfl⟩
  rw [hG]
  have HG := Lib.hid hG; clear hG
  have HP := Lib.hid hp; clear hp
  have HQ := Lib.hid hq; clear hq
  have HR := Lib.hid hr; clear hr
  have HS := Lib.hid hs; clear hs
  have HQ0 := Lib.hid hq0; clear hq0
  have HS0 := Lib.hid hs0; clear hs0
  have HN := Lib.hid hN; clear hN
  go_enter Tryz.func97, Tryz.ntmps97
  go_wp2_with fail
  obtain ⟨W0, hW, hbx, k1, k2, k3, k4⟩ := bbox4 h1 h2 h3 h4
  rw [← hW]
  clear hW h1 h2 h3 h4
  have hT := hbx; clear hbx
  have z0 := k1.c0
  have z1 := k1.c1
  have z2 := k2.c0
  have z3 := k2.c1
  go_wp2_with fail
  clear z0 z1 z2 z3
  (with_reducible refine (rdiv_any _ k1.bv k2.bv HP.out HQ.out (by have := HQ0.out; omega)).mono ?_)
  rintro e u1 ⟨rx, ru, x, u, rfl, hrx, hru, hqu, hb9⟩
  replace hT := hT.trans (hb9.mono hT.size)
  replace k2 := k2.below hb9
  replace k3 := k3.below hb9
  replace k4 := k4.below hb9
  clear k1 hb9
  obtain ⟨sx, Ax, nx, cx, rfl⟩ := hrx.form
  obtain ⟨su, Au, nu, cu, rfl⟩ := hru.form
  obtain ⟨W1, hW, hbx, kx, ku⟩ := box2 hrx hru
  have k3w := k3.below hbx
  have k4w := k4.below hbx
  have z0 := k3w.c0
  have z1 := k3w.c1
  have z2 := k4w.c0
  have z3 := k4w.c1
  rw [hW] at z0 z1 z2 z3
  go_wp2_with fail
  clear z0 z1 z2 z3 k3w k4w
  rw [← hW]
  clear hW hrx hru
  replace hT := hT.trans (hbx.mono hT.size)
  replace k2 := k2.below hbx
  replace k3 := k3.below hbx
  replace k4 := k4.below hbx
  clear hbx
  (with_reducible refine (rdiv_any _ k3.bv k4.bv HR.out HS.out (by have := HS0.out; omega)).mono ?_)
  rintro e u2 ⟨ry, rv, y, v, rfl, hry, hrv, hqv, hb9⟩
  replace hT := hT.trans (hb9.mono hT.size)
  replace k2 := k2.below hb9
  replace k4 := k4.below hb9
  replace kx := kx.below hb9
  replace ku := ku.below hb9
  clear k3 hb9
  obtain ⟨sy, Ay, ny, cy, rfl⟩ := hry.form
  obtain ⟨sv, Av, nv', cv, rfl⟩ := hrv.form
  obtain ⟨W2, hW, hbx, ky, kv⟩ := box2 hry hrv
  have kxw := kx.below hbx
  have z0 := kxw.c0
  have z1 := kxw.c1
  have z2 := ky.c0
  have z3 := ky.c1
  rw [hW] at z0 z1 z2 z3
  go_wp2_with fail
  clear z0 z1 z2 z3 kxw
  rw [← hW]
  clear hW hry hrv
  replace hT := hT.trans (hbx.mono hT.size)
  replace k2 := k2.below hbx
  replace k4 := k4.below hbx
  replace kx := kx.below hbx
  replace ku := ku.below hbx
  clear hbx
  have hxb : ab x < pw 60 := by have := hqu.2.2.2; have := HP.out; omega
  have hyb : ab y < pw 60 := by have := hqv.2.2.2; have := HR.out; omega
  have hu := qr_rest HQ0.out hqu
  have hv := qr_rest HS0.out hqv
  have hub : ab u < pw 60 := by have := hqu.2.2.1; have := HQ.out; omega
  have hvb : ab v < pw 60 := by have := hqv.2.2.1; have := HS.out; omega
  have HU := Lib.hid hu; clear hu
  have HV := Lib.hid hv; clear hv
  have HUB := Lib.hid hub; clear hub
  have HVB := Lib.hid hvb; clear hvb
  have HQU := Lib.hid hqu; clear hqu
  have HQV := Lib.hid hqv; clear hqv
  have HXB := Lib.hid hxb; clear hxb
  have HYB := Lib.hid hyb; clear hyb
  (with_reducible refine (rcmp_any _ kx.bv ky.bv HXB.out HYB.out).mono ?_)
  rintro e u3 ⟨rfl, hb9⟩
  replace hT := hT.trans (hb9.mono hT.size)
  replace k2 := k2.below hb9
  replace k4 := k4.below hb9
  replace ku := ku.below hb9
  replace kv := kv.below hb9
  clear hb9 kx ky
  by_cases hxy : x = y
  rotate_left
  · have hg2 := HG.out
    rw [ord_ne HQ0.out HS0.out HQU.out HQV.out hxy] at hg2
    rcases cmp_cases x y with ⟨_, hc⟩ | ⟨hc, _⟩ | ⟨_, hc⟩
    · rw [hc] at hg2 ⊢
      subst hg2
      clear hxy
      go_wp2_with fail
      go_ret
      exact ⟨rfl, hT⟩
    · exact absurd hc hxy
    · rw [hc] at hg2 ⊢
      subst hg2
      clear hxy
      go_wp2_with fail
      go_ret
      exact ⟨rfl, hT⟩
  rw [cmp_of_eq hxy]
  have hGe : G = ordI u q v s := by rw [← HG.out]; exact ord_eq HQU.out (by rw [hxy]; exact HQV.out)
  have HGE := Lib.hid hGe; clear hGe hxy
  have hsu := ku.sg
  have hsv := kv.sg
  have HSU := Lib.hid hsu; clear hsu
  have HSV := Lib.hid hsv; clear hsv
  have z0 := ku.c0
  have z1 := kv.c0
  by_cases hz : u = 0 ∨ v = 0
  · have hG2 : G = Lib.compareInt (sgn u) (sgn v) := by rw [HGE.out]; exact ord_zero HQ0.out HS0.out HU.out.1 HV.out.1 hz
    have hd : su - sv = G := by
      rw [hG2, HSU.out, HSV.out]
      have := HU.out.1
      have := HV.out.1
      rcases sgn_three u with ⟨h, h'⟩ | ⟨h, h'⟩ | ⟨h, h'⟩ <;> rcases sgn_three v with ⟨g, g'⟩ | ⟨g, g'⟩ | ⟨g, g'⟩ <;> rw [h', g'] <;> first | rfl | omega
    have hw : IntKind.i64.wrap (su - sv) = su - sv := IntWalk.i64_in _ (by rw [HSU.out, HSV.out]; have := sgn_bd u; have := sgn_bd v; omega)
    by_cases hz1 : u = 0
    · have hs : su = 0 := by rw [HSU.out, hz1]; rfl
      clear hw
      have HD := Lib.hid hd; clear hd
      clear hz hz1 hG2
      subst hs
      go_wp2_with fail
      go_ret
      exact ⟨by rw [← HD.out]; simp; exact IntWalk.wrap64_in _ (by rw [HSV.out]; have := sgn_bd v; omega), hT⟩
    · have hs : sv = 0 := by rw [HSV.out, show v = 0 from hz.resolve_left hz1]; rfl
      have hs1 : (su == 0) = false := by rw [beq_eq_false_iff_ne, HSU.out]; exact fun h => hz1 (sgn_eq_zero h)
      clear hw
      have HD := Lib.hid hd; clear hd
      clear hz hz1 hG2
      subst hs
      go_wp2_with fail
      go_ret
      exact ⟨by rw [← HD.out]; simp; exact IntWalk.wrap64_in _ (by rw [HSU.out]; have := sgn_bd u; omega), hT⟩
  have hu0 : 0 < u := by have := HU.out; omega
  have hv0 : 0 < v := by have := HV.out; omega
  have hsu1 : su = 1 := by rw [HSU.out, sgn_pos hu0]
  have hsv1 : sv = 1 := by rw [HSV.out, sgn_pos hv0]
  subst hsu1
  subst hsv1
  clear hz
  have HU0 := Lib.hid hu0; clear hu0
  have HV0 := Lib.hid hv0; clear hv0
  have y0 := k4.c0
  have y1 := k4.c1
  have y2 := k2.c0
  have y3 := k2.c1
  have z2 := ku.c1
  have z3 := kv.c1
  go_wp2_with fail
  clear y0 y1 y2 y3 z0 z1 z2 z3
  (with_reducible refine (IH.out _ _ _ _ _ _ _ _ _ _ _ _ _ _ _ _ _ _ _ _ _ k4.bv kv.bv k2.bv ku.bv HS.out HVB.out HQ.out HUB.out HV0.out HU0.out (by have := HN.out; have := HU.out; have := HV.out; omega)).mono ?_)
  rintro e u4 ⟨rfl, hb9⟩
  have hr : ordI s v q u = G := by rw [HGE.out]; unfold ordI; rw [Int.mul_comm s u, Int.mul_comm q v]
  rw [hr]
  clear hr
  go_wp2_with fail
  go_ret
  exact ⟨rfl, hT.trans (hb9.mono hT.size)⟩

set_option maxRecDepth 100000 in
set_option maxHeartbeats 8000000 in
theorem rfcompare_any (s1 s2 s3 s4 : Int) (A1 A2 A3 A4 : Option Addr) (n1 d1 n2 d2 n3 d3 n4 d4 : Nat) (p1 q1 p2 q2 : Int) (w : World) (ha : FV w w.heap.size s1 A1 n1 d1 s2 A2 n2 d2 p1 q1) (hb : FV w w.heap.size s3 A3 n3 d3 s4 A4 n4 d4 p2 q2) (h1 : ab p1 < pw 60) (h2 : ab q1 < pw 60) (h3 : ab p2 < pw 60) (h4 : ab q2 < pw 60) (r1 : FR p1 q1) (r2 : FR p2 q2) :
    Calls Tryz.prog 53 #[.agg #[.int .i64 s1, .slice A1 n1 d1, .int .i64 s2, .slice A2 n2 d2], .agg #[.int .i64 s3, .slice A3 n3 d3, .int .i64 s4, .slice A4 n4 d4]] w fun e w' => e = .returned (.int .i64 (ordI p1 q1 p2 q2)) ∧ Below w.heap.size w w' := by
  have H1 := Lib.hid h1; clear h1
  have H2 := Lib.hid h2; clear h2
  have H3 := Lib.hid h3; clear h3
  have H4 := Lib.hid h4; clear h4
  have F1 := Lib.hid r1; clear r1
  have F2 := Lib.hid r2; clear r2
  go_enter Tryz.func53, Tryz.ntmps53
  go_wp2_with fail
  obtain ⟨Wa, hWa, hba, ka0⟩ := fbox1 ha
  obtain ⟨W0, hW, hbb, kb⟩ := fbox1 (hb.later hba)
  have ka := ka0.below hbb
  have hT := hba.trans (hbb.mono hba.size)
  have hs : Wa.heap.size = w.heap.size + 1 := by rw [hWa]; simp
  rw [hs] at kb
  rw [hWa] at hW
  rw [← hW]
  clear hW hWa ka0 hba hbb ha hb hs
  have z0 := ka.c0
  have z1 := ka.c1
  have z2 := ka.c2
  have z3 := ka.c3
  go_wp2_with fail
  clear z0 z1 z2 z3
  (with_reducible refine (rfright_yes _ ka.fv H1.out H2.out F1.out).mono ?_)
  rintro e u1 ⟨rfl, hb9⟩
  replace hT := hT.trans (hb9.mono hT.size)
  replace ka := ka.below hb9
  replace kb := kb.below hb9
  have z0 := kb.c0
  have z1 := kb.c1
  have z2 := kb.c2
  have z3 := kb.c3
  go_wp2_with fail
  clear z0 z1 z2 z3
  (with_reducible refine (rfright_yes _ kb.fv H3.out H4.out F2.out).mono ?_)
  rintro e u2 ⟨rfl, hb9⟩
  replace hT := hT.trans (hb9.mono hT.size)
  replace ka := ka.below hb9
  replace kb := kb.below hb9
  have z0 := ka.c0
  have z1 := ka.c1
  have z2 := ka.c2
  have z3 := ka.c3
  have y0 := kb.c0
  have y1 := kb.c1
  have y2 := kb.c2
  have y3 := kb.c3
  go_wp2_with fail
  clear z0 z1 z2 z3 y0 y1 y2 y3
  (with_reducible refine (rbelow_any _ _ _ _ _ _ _ _ _ _ _ _ _ _ _ _ _ _ _ _ _ _ ka.fv.a ka.fv.b kb.fv.a kb.fv.b H1.out H2.out H3.out H4.out (FR.pos F1.out) (FR.pos F2.out) (Nat.le_refl _)).mono ?_)
  rintro e u3 ⟨rfl, hb9⟩
  go_wp2_with fail
  go_ret
  exact ⟨rfl, hT.trans (hb9.mono hT.size)⟩

end Go.Proofs.YtkjpfnbdlbnbkaaGreatDoor
