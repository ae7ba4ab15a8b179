/- Walks: the law on order. Printed by a program (forder_law.py). -/
import Derived.Test.YtbhdkgieahnojaaGreatDoorXay
import Derived.IntWalk

namespace Go.Proofs.YtbhdkgieahnojaaGreatDoor
open Go.RowKit

theorem sg_num {w : World} {B : Nat} {s1 s2 : Int} {A1 A2 : Option Addr} {n1 d1 n2 d2 : Nat} {p q : Int} (h : FV w B s1 A1 n1 d1 s2 A2 n2 d2 p q) : s1 = sgn p := by
  obtain ⟨A, c, e, _⟩ := h.a
  injection e with e
  have e0 := congrArg (fun (a : Array Value) => a[0]?) e
  simp at e0
  exact e0
set_option maxRecDepth 100000 in
set_option maxHeartbeats 8000000 in
theorem order_law (s1 t1 : Int) (l1 k1 : List Int) (A1 B1 : Option Addr) (n1 d1 m1 e1 : Nat) (s2 t2 : Int) (l2 k2 : List Int) (A2 B2 : Option Addr) (n2 d2 m2 e2 : Nat) (s3 t3 : Int) (l3 k3 : List Int) (A3 B3 : Option Addr) (n3 d3 m3 e3 : Nat) (w : World) (ht : TB w) (h1 : Ar w s1 l1 A1 n1 d1) (g1 : Ar w t1 k1 B1 m1 e1) (h2 : Ar w s2 l2 A2 n2 d2) (g2 : Ar w t2 k2 B2 m2 e2) (h3 : Ar w s3 l3 A3 n3 d3) (g3 : Ar w t3 k3 B3 m3 e3) :
    Calls Tryz.prog 6 #[.agg #[.int .i64 s1, .slice A1 n1 d1, .int .i64 t1, .slice B1 m1 e1], .agg #[.int .i64 s2, .slice A2 n2 d2, .int .i64 t2, .slice B2 m2 e2], .agg #[.int .i64 s3, .slice A3 n3 d3, .int .i64 t3, .slice B3 m3 e3]] w fun e w' => e = .returned (.bool true) ∧ Below w.heap.size w w' := by
  have HT := Lib.hid ht; clear ht
  go_enter Tryz.func6, Tryz.ntmps6
  go_wp2_with fail
  obtain ⟨W0, hW, hbx, q1, q2, q3⟩ := afb3 h1 g1 h2 g2 h3 g3
  rw [← hW]
  clear hW h1 g1 h2 g2 h3 g3
  have hT := hbx
  (with_reducible refine (fsmall_any _ (HT.out.below hT)).mono ?_)
  rintro e v0 ⟨rfl, hb⟩
  have hT := hT.trans (hb.mono hT.size)
  have q1 := q1.below hb
  have q2 := q2.below hb
  have q3 := q3.below hb
  have a0 := q1.c0
  have a1 := q1.c1
  have a2 := q1.c2
  have a3 := q1.c3
  go_wp2_with fail
  clear a0 a1 a2 a3
  by_cases hcf1 : n1 ≤ 12 ∧ m1 ≤ 12
  rotate_left
  · refine (ffew_any s1 t1 12 A1 B1 n1 d1 m1 e1 _ false (decide_eq_false (by omega))).mono ?_
    rintro e v ⟨rfl, hb⟩
    go_wp2_with fail
    go_ret
    exact ⟨rfl, hT.trans (hb.mono hT.size)⟩
  refine (ffew_any s1 t1 12 A1 B1 n1 d1 m1 e1 _ true (decide_eq_true (by omega))).mono ?_
  rintro e vf1 ⟨rfl, hb⟩
  have hT := hT.trans (hb.mono hT.size)
  have q1 := q1.below hb
  have q2 := q2.below hb
  have q3 := q3.below hb
  have HCf1 := Lib.hid hcf1; clear hcf1
  have a0 := q2.c0
  have a1 := q2.c1
  have a2 := q2.c2
  have a3 := q2.c3
  go_wp2_with fail
  clear a0 a1 a2 a3
  by_cases hcf2 : n2 ≤ 12 ∧ m2 ≤ 12
  rotate_left
  · refine (ffew_any s2 t2 12 A2 B2 n2 d2 m2 e2 _ false (decide_eq_false (by omega))).mono ?_
    rintro e v ⟨rfl, hb⟩
    go_wp2_with fail
    go_ret
    exact ⟨rfl, hT.trans (hb.mono hT.size)⟩
  refine (ffew_any s2 t2 12 A2 B2 n2 d2 m2 e2 _ true (decide_eq_true (by omega))).mono ?_
  rintro e vf2 ⟨rfl, hb⟩
  have hT := hT.trans (hb.mono hT.size)
  have q1 := q1.below hb
  have q2 := q2.below hb
  have q3 := q3.below hb
  have HCf2 := Lib.hid hcf2; clear hcf2
  have a0 := q3.c0
  have a1 := q3.c1
  have a2 := q3.c2
  have a3 := q3.c3
  go_wp2_with fail
  clear a0 a1 a2 a3
  by_cases hcf3 : n3 ≤ 12 ∧ m3 ≤ 12
  rotate_left
  · refine (ffew_any s3 t3 12 A3 B3 n3 d3 m3 e3 _ false (decide_eq_false (by omega))).mono ?_
    rintro e v ⟨rfl, hb⟩
    go_wp2_with fail
    go_ret
    exact ⟨rfl, hT.trans (hb.mono hT.size)⟩
  refine (ffew_any s3 t3 12 A3 B3 n3 d3 m3 e3 _ true (decide_eq_true (by omega))).mono ?_
  rintro e vf3 ⟨rfl, hb⟩
  have hT := hT.trans (hb.mono hT.size)
  have q1 := q1.below hb
  have q2 := q2.below hb
  have q3 := q3.below hb
  have HCf3 := Lib.hid hcf3; clear hcf3
  have a0 := q1.c0
  have a1 := q1.c1
  have a2 := q1.c2
  have a3 := q1.c3
  go_wp2_with fail
  clear a0 a1 a2 a3
  by_cases hcr1 : RF s1 l1 t1 k1
  rotate_left
  · refine (fright_any _ q1.a q1.b false (by simp [hcr1])).mono ?_
    rintro e v ⟨rfl, hb⟩
    go_wp2_with fail
    go_ret
    exact ⟨rfl, hT.trans (hb.mono hT.size)⟩
  refine (fright_any _ q1.a q1.b true (by simp [hcr1])).mono ?_
  rintro e vr1 ⟨rfl, hb⟩
  have hT := hT.trans (hb.mono hT.size)
  have q1 := q1.below hb
  have q2 := q2.below hb
  have q3 := q3.below hb
  have HCr1 := Lib.hid hcr1; clear hcr1
  have a0 := q2.c0
  have a1 := q2.c1
  have a2 := q2.c2
  have a3 := q2.c3
  go_wp2_with fail
  clear a0 a1 a2 a3
  by_cases hcr2 : RF s2 l2 t2 k2
  rotate_left
  · refine (fright_any _ q2.a q2.b false (by simp [hcr2])).mono ?_
    rintro e v ⟨rfl, hb⟩
    go_wp2_with fail
    go_ret
    exact ⟨rfl, hT.trans (hb.mono hT.size)⟩
  refine (fright_any _ q2.a q2.b true (by simp [hcr2])).mono ?_
  rintro e vr2 ⟨rfl, hb⟩
  have hT := hT.trans (hb.mono hT.size)
  have q1 := q1.below hb
  have q2 := q2.below hb
  have q3 := q3.below hb
  have HCr2 := Lib.hid hcr2; clear hcr2
  have a0 := q3.c0
  have a1 := q3.c1
  have a2 := q3.c2
  have a3 := q3.c3
  go_wp2_with fail
  clear a0 a1 a2 a3
  by_cases hcr3 : RF s3 l3 t3 k3
  rotate_left
  · refine (fright_any _ q3.a q3.b false (by simp [hcr3])).mono ?_
    rintro e v ⟨rfl, hb⟩
    go_wp2_with fail
    go_ret
    exact ⟨rfl, hT.trans (hb.mono hT.size)⟩
  refine (fright_any _ q3.a q3.b true (by simp [hcr3])).mono ?_
  rintro e vr3 ⟨rfl, hb⟩
  have hT := hT.trans (hb.mono hT.size)
  have q1 := q1.below hb
  have q2 := q2.below hb
  have q3 := q3.below hb
  have HCr3 := Lib.hid hcr3; clear hcr3
  obtain ⟨x, ka, hsa, _, hra⟩ := q1.bf HCr1.out
  have hra := hra 12 HCf1.out
  have HRa := Lib.hid hra; clear hra
  have HSa := Lib.hid hsa; clear hsa
  clear q1 HCr1 HCf1
  obtain ⟨y, kb, hsb, _, hrb⟩ := q2.bf HCr2.out
  have hrb := hrb 12 HCf2.out
  have HRb := Lib.hid hrb; clear hrb
  have HSb := Lib.hid hsb; clear hsb
  clear q2 HCr2 HCf2
  obtain ⟨z, kc, hsc, _, hrc⟩ := q3.bf HCr3.out
  have hrc := hrc 12 HCf3.out
  have HRc := Lib.hid hrc; clear hrc
  have HSc := Lib.hid hsc; clear hsc
  clear q3 HCr3 HCf3
  obtain ⟨X, hX⟩ : ∃ C, cmpR x y = C := ⟨_, rfl⟩
  have hbd := cmpR_bd x y
  rw [hX] at hbd
  obtain ⟨X0, X1⟩ := hbd
  have hse : decide (x = y) = (X == 0) := by
    rw [← hX, Bool.eq_iff_iff]
    simp only [decide_eq_true_eq, beq_iff_eq]
    exact cmpR_zero.symm
  have htu : cmpR y x = -X := by rw [← hX]; exact cmpR_turn x y
  have hsg : sgn (x - y).num = X := by rw [sgn_sub]; exact hX
  have had : cmpR (x + z) (y + z) = X := by rw [cmpR_add]; exact hX
  have hmu : cmpR (x * z) (y * z) = X * sgn z.num := by rw [cmpR_mul, hX]
  have htr : X ≤ 0 → cmpR y z ≤ 0 → cmpR x z ≤ 0 := fun h1 h2 => cmpR_trans (by rw [hX]; exact h1) h2
  have HX := Lib.hid hX; clear hX
  have HSE := Lib.hid hse; clear hse
  have HTU := Lib.hid htu; clear htu
  have HSG := Lib.hid hsg; clear hsg
  have HAD := Lib.hid had; clear had
  have HMU := Lib.hid hmu; clear hmu
  have HTR := Lib.hid htr; clear htr
  have za0 := ka.c0
  have za1 := ka.c1
  have za2 := ka.c2
  have za3 := ka.c3
  have zb0 := kb.c0
  have zb1 := kb.c1
  have zb2 := kb.c2
  have zb3 := kb.c3
  go_wp2_with fail
  clear za0 za1 za2 za3 zb0 zb1 zb2 zb3
  (with_reducible refine (rcompare _ ka.fv kb.fv (HRa.out.mono (by decide) (by decide)) (HRb.out.mono (by decide) (by decide))).mono ?_)
  rintro e u1 ⟨rfl, hb9⟩
  have hT := hT.trans (hb9.mono hT.size)
  have ka := ka.below hb9
  have kb := kb.below hb9
  have kc := kc.below hb9
  rw [HX.out]
  have za0 := ka.c0
  have za1 := ka.c1
  have za2 := ka.c2
  have za3 := ka.c3
  have zb0 := kb.c0
  have zb1 := kb.c1
  have zb2 := kb.c2
  have zb3 := kb.c3
  go_wp2_with fail
  clear za0 za1 za2 za3 zb0 zb1 zb2 zb3
  (with_reducible refine (rsame _ ka.fv kb.fv (X == 0) HSE.out).mono ?_)
  rintro e u2 ⟨rfl, hb9⟩
  have hT := hT.trans (hb9.mono hT.size)
  have ka := ka.below hb9
  have kb := kb.below hb9
  have kc := kc.below hb9
  have q1 : decide (X < -1) = false := decide_eq_false (by omega)
  have q2 : decide (1 < X) = false := decide_eq_false (by omega)
  have q3 : ((X == 0) != (X == 0)) = false := by cases (X == 0) <;> rfl
  have q4 : (-X != -X) = false := by simp
  have zb0 := kb.c0
  have zb1 := kb.c1
  have zb2 := kb.c2
  have zb3 := kb.c3
  have za0 := ka.c0
  have za1 := ka.c1
  have za2 := ka.c2
  have za3 := ka.c3
  go_wp2_with fail
  clear zb0 zb1 zb2 zb3 za0 za1 za2 za3
  (with_reducible refine (rcompare _ kb.fv ka.fv (HRb.out.mono (by decide) (by decide)) (HRa.out.mono (by decide) (by decide))).mono ?_)
  rintro e u3 ⟨rfl, hb9⟩
  have hT := hT.trans (hb9.mono hT.size)
  have ka := ka.below hb9
  have kb := kb.below hb9
  have kc := kc.below hb9
  rw [HTU.out]
  have key : ∀ W : World, True := fun _ => trivial
  clear key
  clear q3
  go_upto_region 7 with fail
  go_cut [87] from 74 to 87 (fun b wx => b = .bool false ∧ Below u3.heap.size u3 wx)
  case first =>
    clear q1 q2 q4
    by_cases hX0 : X ≤ 0
    rotate_left
    · have q5 : decide (X ≤ 0) = false := decide_eq_false (by omega)
      go_wp2_with fail
      go_meet
      exact ⟨rfl, Below.refl _ _⟩
    have q5 : decide (X ≤ 0) = true := decide_eq_true hX0
    have htr := HTR.out hX0
    obtain ⟨Y, hY⟩ : ∃ C, cmpR y z = C := ⟨_, rfl⟩
    obtain ⟨Z, hZ⟩ : ∃ C, cmpR x z = C := ⟨_, rfl⟩
    rw [hY, hZ] at htr
    have HY := Lib.hid hY; clear hY
    have HZ := Lib.hid hZ; clear hZ
    have HTT := Lib.hid htr; clear htr
    have hT := Below.refl u3.heap.size u3
    have zb0 := kb.c0
    have zb1 := kb.c1
    have zb2 := kb.c2
    have zb3 := kb.c3
    have zc0 := kc.c0
    have zc1 := kc.c1
    have zc2 := kc.c2
    have zc3 := kc.c3
    go_wp2_with fail
    clear zb0 zb1 zb2 zb3 zc0 zc1 zc2 zc3
    (with_reducible refine (rcompare _ kb.fv kc.fv (HRb.out.mono (by decide) (by decide)) (HRc.out.mono (by decide) (by decide))).mono ?_)
    rintro e u4 ⟨rfl, hb9⟩
    have hT := hT.trans (hb9.mono hT.size)
    have ka := ka.below hb9
    have kb := kb.below hb9
    have kc := kc.below hb9
    rw [HY.out]
    by_cases hY0 : Y ≤ 0
    rotate_left
    · have q6 : decide (Y ≤ 0) = false := decide_eq_false (by omega)
      go_wp2_with fail
      go_meet
      exact ⟨rfl, hT⟩
    have q6 : decide (Y ≤ 0) = true := decide_eq_true hY0
    have q7 : decide (0 < Z) = false := decide_eq_false (by have := HTT.out hY0; omega)
    have za0 := ka.c0
    have za1 := ka.c1
    have za2 := ka.c2
    have za3 := ka.c3
    have zc0 := kc.c0
    have zc1 := kc.c1
    have zc2 := kc.c2
    have zc3 := kc.c3
    go_wp2_with fail
    clear za0 za1 za2 za3 zc0 zc1 zc2 zc3
    (with_reducible refine (rcompare _ ka.fv kc.fv (HRa.out.mono (by decide) (by decide)) (HRc.out.mono (by decide) (by decide))).mono ?_)
    rintro e u5 ⟨rfl, hb9⟩
    have hT := hT.trans (hb9.mono hT.size)
    have ka := ka.below hb9
    have kb := kb.below hb9
    have kc := kc.below hb9
    rw [HZ.out]
    go_wp2_with fail
    go_meet
    exact ⟨rfl, hT⟩
  obtain ⟨rfl, hb9⟩ := hcut
  have hT := hT.trans (hb9.mono hT.size)
  have ka := ka.below hb9
  have kb := kb.below hb9
  have kc := kc.below hb9
  clear q1 q2 q4
  as_aux_lemma =>
    have za0 := ka.c0
    have za1 := ka.c1
    have za2 := ka.c2
    have za3 := ka.c3
    have zb0 := kb.c0
    have zb1 := kb.c1
    have zb2 := kb.c2
    have zb3 := kb.c3
    go_wp2_with fail
    clear za0 za1 za2 za3 zb0 zb1 zb2 zb3
    (with_reducible refine (rsub _ ka.fv kb.fv HRa.out HRb.out (by decide)).mono ?_)
    rintro e u4 ⟨rd, rfl, hrd, hb9⟩
    have hT := hT.trans (hb9.mono hT.size)
    have ka := ka.below hb9
    have kb := kb.below hb9
    have kc := kc.below hb9
    obtain ⟨sd, Ad, nd, cd, yd, Bd, md, ed, rfl⟩ := hrd.form
    have hbd : Rb (x - y) 25 24 := Rb.sub HRa.out HRb.out (by decide) (by decide) rfl
    have HRd := Lib.hid hbd; clear hbd
    go_wp2_with fail
    (with_reducible refine (rlright _ _ _ _ _ _ _ _ _ _ hrd.fv (HRd.out.mono (by decide) (by decide))).mono ?_)
    rintro e u5 ⟨rfl, hb9⟩
    have hT := hT.trans (hb9.mono hT.size)
    have ka := ka.below hb9
    have kb := kb.below hb9
    have kc := kc.below hb9
    have hrd := hrd.below hb9
    obtain ⟨Wd, hW, hbx, kd⟩ := fbox hrd
    have kaz := ka.below hbx
    have za0 := kaz.c0
    have za1 := kaz.c1
    have za2 := kaz.c2
    have za3 := kaz.c3
    have kcz := kc.below hbx
    have zc0 := kcz.c0
    have zc1 := kcz.c1
    have zc2 := kcz.c2
    have zc3 := kcz.c3
    rw [hW] at za0 za1 za2 za3 zc0 zc1 zc2 zc3
    go_wp2_with fail
    clear za0 za1 za2 za3 zc0 zc1 zc2 zc3
    clear kaz
    clear kcz
    rw [← hW]
    clear hW
    have hT := hT.trans (hbx.mono hT.size)
    have ka := ka.below hbx
    have kb := kb.below hbx
    have kc := kc.below hbx
    (with_reducible refine (radd _ ka.fv kc.fv HRa.out HRc.out (by decide)).mono ?_)
    rintro e u6 ⟨rp, rfl, hrp, hb9⟩
    have hT := hT.trans (hb9.mono hT.size)
    have ka := ka.below hb9
    have kb := kb.below hb9
    have kc := kc.below hb9
    have kd := kd.below hb9
    obtain ⟨sp, Ap, np, cp, yp, Bp, mp, ep, rfl⟩ := hrp.form
    have hbp : Rb (x + z) 25 24 := Rb.add HRa.out HRc.out (by decide) (by decide) rfl
    have HRp := Lib.hid hbp; clear hbp
    go_wp2_with fail
    (with_reducible refine (rlright _ _ _ _ _ _ _ _ _ _ hrp.fv (HRp.out.mono (by decide) (by decide))).mono ?_)
    rintro e u7 ⟨rfl, hb9⟩
    have hT := hT.trans (hb9.mono hT.size)
    have ka := ka.below hb9
    have kb := kb.below hb9
    have kc := kc.below hb9
    have kd := kd.below hb9
    have hrp := hrp.below hb9
    obtain ⟨Wp, hW, hbx, kp⟩ := fbox hrp
    have kbz := kb.below hbx
    have zb0 := kbz.c0
    have zb1 := kbz.c1
    have zb2 := kbz.c2
    have zb3 := kbz.c3
    have kcz := kc.below hbx
    have zc0 := kcz.c0
    have zc1 := kcz.c1
    have zc2 := kcz.c2
    have zc3 := kcz.c3
    rw [hW] at zb0 zb1 zb2 zb3 zc0 zc1 zc2 zc3
    go_wp2_with fail
    clear zb0 zb1 zb2 zb3 zc0 zc1 zc2 zc3
    clear kbz
    clear kcz
    rw [← hW]
    clear hW
    have hT := hT.trans (hbx.mono hT.size)
    have ka := ka.below hbx
    have kb := kb.below hbx
    have kc := kc.below hbx
    have kd := kd.below hbx
    (with_reducible refine (radd _ kb.fv kc.fv HRb.out HRc.out (by decide)).mono ?_)
    rintro e u8 ⟨rq, rfl, hrq, hb9⟩
    have hT := hT.trans (hb9.mono hT.size)
    have ka := ka.below hb9
    have kb := kb.below hb9
    have kc := kc.below hb9
    have kd := kd.below hb9
    have kp := kp.below hb9
    obtain ⟨sq, Aq, nq, cq, yq, Bq, mq, eq, rfl⟩ := hrq.form
    have hbq : Rb (y + z) 25 24 := Rb.add HRb.out HRc.out (by decide) (by decide) rfl
    have HRq := Lib.hid hbq; clear hbq
    go_wp2_with fail
    (with_reducible refine (rlright _ _ _ _ _ _ _ _ _ _ hrq.fv (HRq.out.mono (by decide) (by decide))).mono ?_)
    rintro e u9 ⟨rfl, hb9⟩
    have hT := hT.trans (hb9.mono hT.size)
    have ka := ka.below hb9
    have kb := kb.below hb9
    have kc := kc.below hb9
    have kd := kd.below hb9
    have kp := kp.below hb9
    have hrq := hrq.below hb9
    obtain ⟨Wq, hW, hbx, kq⟩ := fbox hrq
    have kaz := ka.below hbx
    have za0 := kaz.c0
    have za1 := kaz.c1
    have za2 := kaz.c2
    have za3 := kaz.c3
    have kcz := kc.below hbx
    have zc0 := kcz.c0
    have zc1 := kcz.c1
    have zc2 := kcz.c2
    have zc3 := kcz.c3
    rw [hW] at za0 za1 za2 za3 zc0 zc1 zc2 zc3
    go_wp2_with fail
    clear za0 za1 za2 za3 zc0 zc1 zc2 zc3
    clear kaz
    clear kcz
    rw [← hW]
    clear hW
    have hT := hT.trans (hbx.mono hT.size)
    have ka := ka.below hbx
    have kb := kb.below hbx
    have kc := kc.below hbx
    have kd := kd.below hbx
    have kp := kp.below hbx
    (with_reducible refine (rmul _ ka.fv kc.fv HRa.out HRc.out (by decide)).mono ?_)
    rintro e u10 ⟨rm, rfl, hrm, hb9⟩
    have hT := hT.trans (hb9.mono hT.size)
    have ka := ka.below hb9
    have kb := kb.below hb9
    have kc := kc.below hb9
    have kd := kd.below hb9
    have kp := kp.below hb9
    have kq := kq.below hb9
    obtain ⟨sm, Am, nm, cm, ym, Bm, mm, em, rfl⟩ := hrm.form
    have hbm : Rb (x * z) 24 24 := Rb.mul HRa.out HRc.out rfl rfl
    have HRm := Lib.hid hbm; clear hbm
    go_wp2_with fail
    (with_reducible refine (rlright _ _ _ _ _ _ _ _ _ _ hrm.fv (HRm.out.mono (by decide) (by decide))).mono ?_)
    rintro e u11 ⟨rfl, hb9⟩
    have hT := hT.trans (hb9.mono hT.size)
    have ka := ka.below hb9
    have kb := kb.below hb9
    have kc := kc.below hb9
    have kd := kd.below hb9
    have kp := kp.below hb9
    have kq := kq.below hb9
    have hrm := hrm.below hb9
    obtain ⟨Wm, hW, hbx, km⟩ := fbox hrm
    have kbz := kb.below hbx
    have zb0 := kbz.c0
    have zb1 := kbz.c1
    have zb2 := kbz.c2
    have zb3 := kbz.c3
    have kcz := kc.below hbx
    have zc0 := kcz.c0
    have zc1 := kcz.c1
    have zc2 := kcz.c2
    have zc3 := kcz.c3
    rw [hW] at zb0 zb1 zb2 zb3 zc0 zc1 zc2 zc3
    go_wp2_with fail
    clear zb0 zb1 zb2 zb3 zc0 zc1 zc2 zc3
    clear kbz
    clear kcz
    rw [← hW]
    clear hW
    have hT := hT.trans (hbx.mono hT.size)
    have ka := ka.below hbx
    have kb := kb.below hbx
    have kc := kc.below hbx
    have kd := kd.below hbx
    have kp := kp.below hbx
    have kq := kq.below hbx
    (with_reducible refine (rmul _ kb.fv kc.fv HRb.out HRc.out (by decide)).mono ?_)
    rintro e u12 ⟨rn, rfl, hrn, hb9⟩
    have hT := hT.trans (hb9.mono hT.size)
    have ka := ka.below hb9
    have kb := kb.below hb9
    have kc := kc.below hb9
    have kd := kd.below hb9
    have kp := kp.below hb9
    have kq := kq.below hb9
    have km := km.below hb9
    obtain ⟨sn, An, nn, cn, yn, Bn, mn, en, rfl⟩ := hrn.form
    have hbn : Rb (y * z) 24 24 := Rb.mul HRb.out HRc.out rfl rfl
    have HRn := Lib.hid hbn; clear hbn
    go_wp2_with fail
    (with_reducible refine (rlright _ _ _ _ _ _ _ _ _ _ hrn.fv (HRn.out.mono (by decide) (by decide))).mono ?_)
    rintro e u13 ⟨rfl, hb9⟩
    have hT := hT.trans (hb9.mono hT.size)
    have ka := ka.below hb9
    have kb := kb.below hb9
    have kc := kc.below hb9
    have kd := kd.below hb9
    have kp := kp.below hb9
    have kq := kq.below hb9
    have km := km.below hb9
    have hrn := hrn.below hb9
    have hsd : sd = X := by rw [← HSG.out]; exact sg_num kd.fv
    have HSD := Lib.hid hsd; clear hsd
    obtain ⟨Wn, hW, hbx, kn⟩ := fbox hrn
    have kdz := kd.below hbx
    have zd0 := kdz.c0
    have zd1 := kdz.c1
    have zd2 := kdz.c2
    have zd3 := kdz.c3
    have kpz := kp.below hbx
    have zp0 := kpz.c0
    have zp1 := kpz.c1
    have zp2 := kpz.c2
    have zp3 := kpz.c3
    have kqz := kq.below hbx
    have zq0 := kqz.c0
    have zq1 := kqz.c1
    have zq2 := kqz.c2
    have zq3 := kqz.c3
    rw [HSD.out] at zd0
    rw [hW] at zd0 zd1 zd2 zd3 zp0 zp1 zp2 zp3 zq0 zq1 zq2 zq3
    go_wp2_with fail
    clear zd0 zd1 zd2 zd3 zp0 zp1 zp2 zp3 zq0 zq1 zq2 zq3
    clear kdz
    clear kpz
    clear kqz
    rw [← hW]
    clear hW
    have hT := hT.trans (hbx.mono hT.size)
    have ka := ka.below hbx
    have kb := kb.below hbx
    have kc := kc.below hbx
    have kd := kd.below hbx
    have kp := kp.below hbx
    have kq := kq.below hbx
    have km := km.below hbx
    (with_reducible refine (rcompare _ kp.fv kq.fv (HRp.out.mono (by decide) (by decide)) (HRq.out.mono (by decide) (by decide))).mono ?_)
    rintro e u14 ⟨rfl, hb9⟩
    have hT := hT.trans (hb9.mono hT.size)
    have ka := ka.below hb9
    have kb := kb.below hb9
    have kc := kc.below hb9
    have kd := kd.below hb9
    have kp := kp.below hb9
    have kq := kq.below hb9
    have km := km.below hb9
    have kn := kn.below hb9
    rw [HAD.out]
    have sx : -1 ≤ s3 ∧ s3 ≤ 1 := by rw [HSc.out]; exact sgn_bd _
    obtain ⟨sx0, sx1⟩ := sx
    have hmm : -1 ≤ X * s3 ∧ X * s3 ≤ 1 := by
      have h1 : X = -1 ∨ X = 0 ∨ X = 1 := by omega
      have h2 : s3 = -1 ∨ s3 = 0 ∨ s3 = 1 := by omega
      rcases h1 with rfl | rfl | rfl <;> rcases h2 with h | h | h <;> rw [h] <;> decide
    have hmul : cmpR (x * z) (y * z) = X * s3 := by rw [HMU.out, HSc.out]
    have HMUL := Lib.hid hmul; clear hmul
    have hcm := fun (w' : World) (hb : Below u14.heap.size u14 w') => rcompare w' (km.below hb).fv (kn.below hb).fv (HRm.out.mono (by decide) (by decide)) (HRn.out.mono (by decide) (by decide))
    rw [HMUL.out] at hcm
    obtain ⟨M, hM⟩ : ∃ M, X * s3 = M := ⟨_, rfl⟩
    rw [hM] at hcm hmm
    obtain ⟨hm0, hm1⟩ := hmm
    have hwr : IntKind.i64.wrap (X * s3) = M := by rw [hM]; exact IntWalk.i64_in _ (by omega)
    have HM := Lib.hid hM; clear hM
    have HCM := Lib.hid hcm; clear hcm
    have e0 : ∀ W' : World, Below u14.heap.size u14 W' → W'.cell? ⟨u11.heap.size, 0, none⟩ = some (.int .i64 sm) ∧ W'.cell? ⟨u11.heap.size, 1, none⟩ = some (.slice Am nm cm) ∧ W'.cell? ⟨u11.heap.size, 2, none⟩ = some (.int .i64 ym) ∧ W'.cell? ⟨u11.heap.size, 3, none⟩ = some (.slice Bm mm em) ∧ W'.cell? ⟨u13.heap.size, 0, none⟩ = some (.int .i64 sn) ∧ W'.cell? ⟨u13.heap.size, 1, none⟩ = some (.slice An nn cn) ∧ W'.cell? ⟨u13.heap.size, 2, none⟩ = some (.int .i64 yn) ∧ W'.cell? ⟨u13.heap.size, 3, none⟩ = some (.slice Bn mn en) ∧ W'.cell? ⟨w.heap.size + 1 + 1, 0, none⟩ = some (.int .i64 s3) ∧ Below u14.heap.size u14 W' := fun W' hW =>
      ⟨(km.below hW).c0, (km.below hW).c1, (km.below hW).c2, (km.below hW).c3, (kn.below hW).c0, (kn.below hW).c1, (kn.below hW).c2, (kn.below hW).c3, (kc.below hW).c0, hW⟩
    have E0 := Lib.hid e0; clear e0
    have hB00 : Below u14.heap.size u14 u14.drew := (Below.refl _ _).drew
    have hTs := hT.size
    go_upto_region 16 with fail
    go_region_held3 (fun W' => W'.cell? ⟨u11.heap.size, 0, none⟩ = some (.int .i64 sm) ∧ W'.cell? ⟨u11.heap.size, 1, none⟩ = some (.slice Am nm cm) ∧ W'.cell? ⟨u11.heap.size, 2, none⟩ = some (.int .i64 ym) ∧ W'.cell? ⟨u11.heap.size, 3, none⟩ = some (.slice Bm mm em) ∧ W'.cell? ⟨u13.heap.size, 0, none⟩ = some (.int .i64 sn) ∧ W'.cell? ⟨u13.heap.size, 1, none⟩ = some (.slice An nn cn) ∧ W'.cell? ⟨u13.heap.size, 2, none⟩ = some (.int .i64 yn) ∧ W'.cell? ⟨u13.heap.size, 3, none⟩ = some (.slice Bn mn en) ∧ W'.cell? ⟨w.heap.size + 1 + 1, 0, none⟩ = some (.int .i64 s3) ∧ Below u14.heap.size u14 W')
      (first | exact E0.out _ (by assumption) | exact E0.out _ ⟨rfl, rfl, rfl, Nat.le_refl _, fun _ _ => rfl⟩)
      (first
        | (go_at_call 56; refine (HCM.out _ hB00).mono ?_; rintro e x1 ⟨rfl, hb1⟩; have hB1 : Below u14.heap.size u14 x1 := ⟨hb1.os, hb1.tape, hb1.output, hb1.size, hb1.block⟩))
    go_wp2_with fail
    go_ret
    exact ⟨rfl, hT.trans (hB1.mono hTs)⟩

end Go.Proofs.YtbhdkgieahnojaaGreatDoor
