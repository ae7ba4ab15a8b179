/- Walks: the reference's New of fractions. Printed by a program (rfnew.py). Walks: the reference's made and Of of fractions. Printed by a program (rfops.py). Walks: the reference's Add and Sub of right fractions. Printed by a program (rfops.py). Walks: the reference's Mul and Div of right fractions. Printed by a program (rfops.py). Fractions in lists: as they lie in memory; the operations of both sides as partial functions of rational numbers. Printed by a program (mkLa.py). Lists of fractions: one step after the other, until one fails. Walks of isZero, divide. -/
import Derived.Test.YtlbjaimgoiimgaaXao
import Derived.Test.YtlbjaimgoiimgaaXai
import Derived.Test.YtlbjaimgoiimgaaXak
import Derived.Test.YtlbjaimgoiimgaaXaj
import Derived.Laws.AppendOwn

namespace Go.Proofs.Ytlbjaimgoiimgaa
open Go.RowKit

set_option maxRecDepth 100000 in
set_option maxHeartbeats 8000000 in
theorem rnew_pos (s1 s2 : Int) (A1 A2 : Option Addr) (n1 d1 n2 d2 : Nat) (p q : Int) (w : World) (h1 : BV w w.heap.size (.agg #[.int .i64 s1, .slice A1 n1 d1]) p) (h2 : BV w w.heap.size (.agg #[.int .i64 s2, .slice A2 n2 d2]) q) (hp : ab p < pw 60) (hq : ab q < pw 60) (hq0 : 0 < q) :
    Calls Try.prog 41 #[.agg #[.int .i64 s1, .slice A1 n1 d1], .agg #[.int .i64 s2, .slice A2 n2 d2]] w fun e w' => ∃ r, e = .returned (.tuple #[r, .int .i64 0]) ∧ FO w' w.heap.size r (Rat.divInt p q).num (((Rat.divInt p q).den : Nat) : Int) ∧ Below w.heap.size w w' := by
  have HKp := Lib.hid hp; clear hp
  have HKq := Lib.hid hq; clear hq
  have HQ0 := Lib.hid hq0; clear hq0
  have nbq_p := Nb.low h2 (Nat.le_refl _)
  go_enter Try.func41, Try.ntmps41
  go_wp2_with fail
  obtain ⟨W0, hW, hbx, kp, kq, kR⟩ := nboxes h1 h2
  rw [← hW]
  clear hW h1 h2
  have hT := hbx
  have hs2 : s2 = 1 := by rw [kq.sg]; exact sgn_pos HQ0.out
  subst hs2
  have kp0 := kp.c0
  have kp1 := kp.c1
  go_wp2_with fail
  clear kp0 kp1
  (with_reducible refine (rRight_yes kp.bv HKp.out).mono ?_)
  rintro e u1 ⟨rfl, hb9⟩
  have hT := hT.trans (hb9.mono hT.size)
  have kp := kp.below hb9
  have kq := kq.below hb9
  have kR := kR.below hb9
  have kq0 := kq.c0
  have kq1 := kq.c1
  go_wp2_with fail
  clear kq0 kq1
  (with_reducible refine (rRight_yes kq.bv HKq.out).mono ?_)
  rintro e u2 ⟨rfl, hb9⟩
  have hT := hT.trans (hb9.mono hT.size)
  have kp := kp.below hb9
  have kq := kq.below hb9
  have kR := kR.below hb9
  obtain ⟨d, hd⟩ : ∃ d, ((Int.gcd p q : Nat) : Int) = d := ⟨_, rfl⟩
  have hq1 : 0 < q := by have := HQ0.out; omega
  have hdp : 0 < d := by rw [← hd]; exact gcd_pos (.inr (by omega))
  have hkd : ab d < pw 60 := by rw [← hd]; exact gcd_lt HKp.out HKq.out
  have HQ1 := Lib.hid hq1; clear hq1
  have HKd := Lib.hid hkd; clear hkd
  have HDP := Lib.hid hdp; clear hdp
  have HD := Lib.hid hd; clear hd
  have kp0 := kp.c0
  have kp1 := kp.c1
  have kq0 := kq.c0
  have kq1 := kq.c1
  go_wp2_with fail
  clear kp0 kp1 kq0 kq1
  (with_reducible refine (rgcd_any _ kp.bv kq.bv HKp.out HKq.out).mono ?_)
  rintro e u3 ⟨rd, rfl, hrd, hb9⟩
  have hT := hT.trans (hb9.mono hT.size)
  have kp := kp.below hb9
  have kq := kq.below hb9
  have kR := kR.below hb9
  rw [HD.out] at hrd
  obtain ⟨sd, Ad, nd, cd, rfl⟩ := hrd.form
  have kqz := kq.below ((Below.refl _ u3).alloc (Nat.le_refl _) (.cells #[.int .i64 sd, .slice Ad nd cd] 38))
  have kqz0 := kqz.c0
  have kqz1 := kqz.c1
  have kpz := kp.below ((Below.refl _ u3).alloc (Nat.le_refl _) (.cells #[.int .i64 sd, .slice Ad nd cd] 38))
  have kpz0 := kpz.c0
  have kpz1 := kpz.c1
  go_wp2_with fail
  clear kqz0 kqz1
  clear kqz
  clear kpz0 kpz1
  clear kpz
  obtain ⟨Wd, hW, hbx, kd⟩ := box1 hrd
  rw [← hW]
  clear hW
  have hT := hT.trans (hbx.mono hT.size)
  have kp := kp.below hbx
  have kq := kq.below hbx
  have kR := kR.below hbx
  have hdn : d ≠ 0 := by have := HDP.out; omega
  have HDN := Lib.hid hdn; clear hdn
  have hltA := kR.blk.lt
  (with_reducible refine (rdiv_any _ kp.bv kd.bv HKp.out HKd.out HDN.out).mono ?_)
  rintro e u4 ⟨ra, rb, av, bv, rfl, hra, hrb, hqr, hb9⟩
  have hT := hT.trans (hb9.mono hT.size)
  have kp := kp.below hb9
  have kq := kq.below hb9
  have kR := kR.below hb9
  have kd := kd.below hb9
  have hea : av = (Rat.divInt p q).num := by
    skip
    exact new_num (by have := HQ1.out; omega) (by rw [HD.out]; rw [if_neg (by have := HQ1.out; omega)]; exact hqr)
  clear hqr
  rw [hea] at hra
  clear hea
  obtain ⟨sa, Aa, na, ca, rfl⟩ := hra.form
  obtain ⟨sb, Ab, nb, cb, rfl⟩ := hrb.form
  have owna := hra
  have hBa := hT.size
  have kqz := kq.below (((Below.refl _ u4).alloc (Nat.le_refl _) (.cells #[.int .i64 sa, .slice Aa na ca] 38)).alloc (by simp) (.cells #[.int .i64 sb, .slice Ab nb cb] 38))
  have kqz0 := kqz.c0
  have kqz1 := kqz.c1
  have kdz := kd.below (((Below.refl _ u4).alloc (Nat.le_refl _) (.cells #[.int .i64 sa, .slice Aa na ca] 38)).alloc (by simp) (.cells #[.int .i64 sb, .slice Ab nb cb] 38))
  have kdz0 := kdz.c0
  have kdz1 := kdz.c1
  go_wp2_with fail
  clear kqz0 kqz1
  clear kqz
  clear kdz0 kdz1
  clear kdz
  obtain ⟨Wa, hW, hbx, ka, kb⟩ := box2 hra hrb
  rw [← hW]
  clear hW
  have hT := hT.trans (hbx.mono hT.size)
  have kp := kp.below hbx
  have kq := kq.below hbx
  have kR := kR.below hbx
  have kd := kd.below hbx
  clear kb kp
  have hra := owna.below hbx; clear owna
  have hltM := kR.blk.lt
  (with_reducible refine (rdiv_any _ kq.bv kd.bv HKq.out HKd.out HDN.out).mono ?_)
  rintro e u5 ⟨rm, rn, mv, nv, rfl, hrm, hrn, hqr, hb9⟩
  have hT := hT.trans (hb9.mono hT.size)
  have kq := kq.below hb9
  have kR := kR.below hb9
  have kd := kd.below hb9
  have ka := ka.below hb9
  have hra := hra.below hb9
  have hem : mv = (((Rat.divInt p q).den : Nat) : Int) := by
    skip
    exact new_den (by have := HQ1.out; omega) (by rw [HD.out]; rw [if_neg (by have := HQ1.out; omega)]; exact hqr)
  clear hqr
  rw [hem] at hrm
  clear hem
  obtain ⟨sm, Am, nm, cm, rfl⟩ := hrm.form
  obtain ⟨sn, An, nn, cn, rfl⟩ := hrn.form
  have ownm := hrm
  have own2 := ownm; clear ownm
  obtain ⟨W9, hW, hbx, km, kn⟩ := box2 hrm hrn
  have kaz := ka.below hbx
  have kRz := kR.below hbx
  have hT9 := hT.trans (hbx.mono hT.size)
  have hra9 := hra.below hbx
  have hrm9 := own2.below hbx
  have gR : w.heap.size ≤ w.heap.size + 1 + 1 := by omega
  rw [hW] at kaz kRz km kn hT9 hra9 hrm9
  have z0 := kaz.c0
  have z1 := kaz.c1
  have y0 := km.c0
  have y1 := km.c1
  have r0 := kRz.blk.cell 0
  have r1 := kRz.blk.cell 1
  have r2 := kRz.blk.cell 2
  have r3 := kRz.blk.cell 3
  have q0 := kRz.blk.frozen 0
  have q1 := kRz.blk.frozen 1
  have q2 := kRz.blk.frozen 2
  have q3 := kRz.blk.frozen 3
  simp at r0 r1 r2 r3
  have hbs := kRz.blk.set4 (.int .i64 sa) (.slice Aa na ca) (.int .i64 sm) (.slice Am nm cm)
  have x0 := hbs.cell 0
  have x1 := hbs.cell 1
  have x2 := hbs.cell 2
  have x3 := hbs.cell 3
  simp at x0 x1 x2 x3
  go_wp2_with fail
  refine bodyPost_ret (v := .tuple #[.agg #[.int .i64 sa, .slice Aa na ca, .int .i64 sm, .slice Am nm cm], .int .i64 0]) (by simp [results, Try.results41, go_sem, x0, x1, x2, x3]) rfl ?_
  exact ⟨_, rfl, FO.mk2 ((hra9.far4 hltA _ _ _ _).mono (by omega)) ((hrm9.far4 hltM _ _ _ _).mono (by omega)), below_st4 hT9 gR _ _ _ _⟩

set_option maxRecDepth 100000 in
set_option maxHeartbeats 8000000 in
theorem rnew_neg (s1 s2 : Int) (A1 A2 : Option Addr) (n1 d1 n2 d2 : Nat) (p q : Int) (w : World) (h1 : BV w w.heap.size (.agg #[.int .i64 s1, .slice A1 n1 d1]) p) (h2 : BV w w.heap.size (.agg #[.int .i64 s2, .slice A2 n2 d2]) q) (hp : ab p < pw 60) (hq : ab q < pw 60) (hq0 : q < 0) :
    Calls Try.prog 41 #[.agg #[.int .i64 s1, .slice A1 n1 d1], .agg #[.int .i64 s2, .slice A2 n2 d2]] w fun e w' => ∃ r, e = .returned (.tuple #[r, .int .i64 0]) ∧ FO w' w.heap.size r (Rat.divInt p q).num (((Rat.divInt p q).den : Nat) : Int) ∧ Below w.heap.size w w' := by
  have HKp := Lib.hid hp; clear hp
  have HKq := Lib.hid hq; clear hq
  have HQ0 := Lib.hid hq0; clear hq0
  have nbq_p := Nb.low h2 (Nat.le_refl _)
  go_enter Try.func41, Try.ntmps41
  go_wp2_with fail
  obtain ⟨W0, hW, hbx, kp, kq, kR⟩ := nboxes h1 h2
  rw [← hW]
  clear hW h1 h2
  have hT := hbx
  have hs2 : s2 = -1 := by rw [kq.sg]; exact sgn_of_neg HQ0.out
  subst hs2
  have kp0 := kp.c0
  have kp1 := kp.c1
  go_wp2_with fail
  clear kp0 kp1
  (with_reducible refine (rRight_yes kp.bv HKp.out).mono ?_)
  rintro e u1 ⟨rfl, hb9⟩
  have hT := hT.trans (hb9.mono hT.size)
  have kp := kp.below hb9
  have kq := kq.below hb9
  have kR := kR.below hb9
  have kq0 := kq.c0
  have kq1 := kq.c1
  go_wp2_with fail
  clear kq0 kq1
  (with_reducible refine (rRight_yes kq.bv HKq.out).mono ?_)
  rintro e u2 ⟨rfl, hb9⟩
  have hT := hT.trans (hb9.mono hT.size)
  have kp := kp.below hb9
  have kq := kq.below hb9
  have kR := kR.below hb9
  have kp0 := kp.c0
  have kp1 := kp.c1
  have kq0 := kq.c0
  have kq1 := kq.c1
  go_wp2_with fail
  clear kp0 kp1 kq0 kq1
  have neq_p : w.heap.size + 1 ≠ w.heap.size := by omega
  have nep_q : w.heap.size ≠ w.heap.size + 1 := by omega
  have nbR_p : True := trivial
  have nbR_q : True := trivial
  have neR_p : w.heap.size + 1 + 1 ≠ w.heap.size := by omega
  have neR_q : w.heap.size + 1 + 1 ≠ w.heap.size + 1 := by omega
  have gep : w.heap.size ≤ w.heap.size := Nat.le_refl _
  have geq : w.heap.size ≤ w.heap.size + 1 := Nat.le_succ _
  have ltp := kp.blk.lt
  have ltq := kq.blk.lt
  (with_reducible refine (rneg_any _ kp.bv HKp.out).mono ?_)
  rintro e u3 ⟨rv, rfl, hrv, hb9⟩
  have hT := hT.trans (hb9.mono hT.size)
  have kp := kp.below hb9
  have kq := kq.below hb9
  have kR := kR.below hb9
  have HKv : Hid (ab (-p) < pw 60) := Lib.hid (by rw [ab_neg]; exact HKp.out)
  obtain ⟨sv, Av, nv, cv, rfl⟩ := hrv.form
  have nbv_p := Nb.high hrv ltp
  have nbv_q := Nb.high hrv ltq
  have t0 := kp.c0
  have t1 := kp.c1
  have f0 := kp.blk.frozen 0
  have f1 := kp.blk.frozen 1
  have kqz := kq.set2 neq_p nbq_p (.int .i64 sv) (.slice Av nv cv)
  have kRz := kR.set2 neR_p nbR_p (.int .i64 sv) (.slice Av nv cv)
  have kpz := kp.put hrv.bv nbv_p
  have kqz0 := kqz.c0
  have kqz1 := kqz.c1
  go_wp2_with fail
  clear kqz0 kqz1
  clear t0 t1 f0 f1
  have kp := kpz; clear kpz
  have kq := kqz; clear kqz
  have kR := kRz; clear kRz
  have hT := (hT.setCell (p := ⟨_, 0, none⟩) gep (.int .i64 sv)).setCell (p := ⟨_, 1, none⟩) gep (.slice Av nv cv)
  generalize (u3.setCell ⟨w.heap.size, 0, none⟩ (.int .i64 sv)).setCell ⟨w.heap.size, 1, none⟩ (.slice Av nv cv) = Vv at *
  have HKp := HKv
  have nbp_q := nbv_q
  have ltp := kp.blk.lt
  have ltq := kq.blk.lt
  (with_reducible refine (rneg_any _ kq.bv HKq.out).mono ?_)
  rintro e u4 ⟨rz, rfl, hrz, hb9⟩
  have hT := hT.trans (hb9.mono hT.size)
  have kp := kp.below hb9
  have kq := kq.below hb9
  have kR := kR.below hb9
  have HKz : Hid (ab (-q) < pw 60) := Lib.hid (by rw [ab_neg]; exact HKq.out)
  obtain ⟨sz, Az, nz, cz, rfl⟩ := hrz.form
  have nbz_p := Nb.high hrz ltp
  have nbz_q := Nb.high hrz ltq
  have t0 := kq.c0
  have t1 := kq.c1
  have f0 := kq.blk.frozen 0
  have f1 := kq.blk.frozen 1
  have kpz := kp.set2 nep_q nbp_q (.int .i64 sz) (.slice Az nz cz)
  have kRz := kR.set2 neR_q nbR_q (.int .i64 sz) (.slice Az nz cz)
  have kqz := kq.put hrz.bv nbz_q
  have kpz0 := kpz.c0
  have kpz1 := kpz.c1
  have kqz0 := kqz.c0
  have kqz1 := kqz.c1
  go_wp2_with fail
  clear kpz0 kpz1
  clear kqz0 kqz1
  clear t0 t1 f0 f1
  have kp := kpz; clear kpz
  have kq := kqz; clear kqz
  have kR := kRz; clear kRz
  have hT := (hT.setCell (p := ⟨_, 0, none⟩) geq (.int .i64 sz)).setCell (p := ⟨_, 1, none⟩) geq (.slice Az nz cz)
  generalize (u4.setCell ⟨w.heap.size + 1, 0, none⟩ (.int .i64 sz)).setCell ⟨w.heap.size + 1, 1, none⟩ (.slice Az nz cz) = Vz at *
  have HKq := HKz
  have nbq_p := nbz_p
  obtain ⟨d, hd⟩ : ∃ d, ((Int.gcd (-p) (-q) : Nat) : Int) = d := ⟨_, rfl⟩
  have hq1 : 0 < (-q) := by have := HQ0.out; omega
  have hdp : 0 < d := by rw [← hd]; exact gcd_pos (.inr (by omega))
  have hkd : ab d < pw 60 := by rw [← hd]; exact gcd_lt HKp.out HKq.out
  have HQ1 := Lib.hid hq1; clear hq1
  have HKd := Lib.hid hkd; clear hkd
  have HDP := Lib.hid hdp; clear hdp
  have HD := Lib.hid hd; clear hd
  (with_reducible refine (rgcd_any _ kp.bv kq.bv HKp.out HKq.out).mono ?_)
  rintro e u5 ⟨rd, rfl, hrd, hb9⟩
  have hT := hT.trans (hb9.mono hT.size)
  have kp := kp.below hb9
  have kq := kq.below hb9
  have kR := kR.below hb9
  rw [HD.out] at hrd
  obtain ⟨sd, Ad, nd, cd, rfl⟩ := hrd.form
  have kqz := kq.below ((Below.refl _ u5).alloc (Nat.le_refl _) (.cells #[.int .i64 sd, .slice Ad nd cd] 38))
  have kqz0 := kqz.c0
  have kqz1 := kqz.c1
  have kpz := kp.below ((Below.refl _ u5).alloc (Nat.le_refl _) (.cells #[.int .i64 sd, .slice Ad nd cd] 38))
  have kpz0 := kpz.c0
  have kpz1 := kpz.c1
  go_wp2_with fail
  clear kqz0 kqz1
  clear kqz
  clear kpz0 kpz1
  clear kpz
  obtain ⟨Wd, hW, hbx, kd⟩ := box1 hrd
  rw [← hW]
  clear hW
  have hT := hT.trans (hbx.mono hT.size)
  have kp := kp.below hbx
  have kq := kq.below hbx
  have kR := kR.below hbx
  have hdn : d ≠ 0 := by have := HDP.out; omega
  have HDN := Lib.hid hdn; clear hdn
  have hltA := kR.blk.lt
  (with_reducible refine (rdiv_any _ kp.bv kd.bv HKp.out HKd.out HDN.out).mono ?_)
  rintro e u6 ⟨ra, rb, av, bv, rfl, hra, hrb, hqr, hb9⟩
  have hT := hT.trans (hb9.mono hT.size)
  have kp := kp.below hb9
  have kq := kq.below hb9
  have kR := kR.below hb9
  have kd := kd.below hb9
  have hea : av = (Rat.divInt p q).num := by
    rw [← Rat.neg_divInt_neg]
    exact new_num (by have := HQ1.out; omega) (by rw [HD.out]; rw [if_neg (by have := HQ1.out; omega)]; exact hqr)
  clear hqr
  rw [hea] at hra
  clear hea
  obtain ⟨sa, Aa, na, ca, rfl⟩ := hra.form
  obtain ⟨sb, Ab, nb, cb, rfl⟩ := hrb.form
  have owna := hra
  have hBa := hT.size
  have kqz := kq.below (((Below.refl _ u6).alloc (Nat.le_refl _) (.cells #[.int .i64 sa, .slice Aa na ca] 38)).alloc (by simp) (.cells #[.int .i64 sb, .slice Ab nb cb] 38))
  have kqz0 := kqz.c0
  have kqz1 := kqz.c1
  have kdz := kd.below (((Below.refl _ u6).alloc (Nat.le_refl _) (.cells #[.int .i64 sa, .slice Aa na ca] 38)).alloc (by simp) (.cells #[.int .i64 sb, .slice Ab nb cb] 38))
  have kdz0 := kdz.c0
  have kdz1 := kdz.c1
  go_wp2_with fail
  clear kqz0 kqz1
  clear kqz
  clear kdz0 kdz1
  clear kdz
  obtain ⟨Wa, hW, hbx, ka, kb⟩ := box2 hra hrb
  rw [← hW]
  clear hW
  have hT := hT.trans (hbx.mono hT.size)
  have kp := kp.below hbx
  have kq := kq.below hbx
  have kR := kR.below hbx
  have kd := kd.below hbx
  clear kb kp
  have hra := owna.below hbx; clear owna
  have hltM := kR.blk.lt
  (with_reducible refine (rdiv_any _ kq.bv kd.bv HKq.out HKd.out HDN.out).mono ?_)
  rintro e u7 ⟨rm, rn, mv, nv, rfl, hrm, hrn, hqr, hb9⟩
  have hT := hT.trans (hb9.mono hT.size)
  have kq := kq.below hb9
  have kR := kR.below hb9
  have kd := kd.below hb9
  have ka := ka.below hb9
  have hra := hra.below hb9
  have hem : mv = (((Rat.divInt p q).den : Nat) : Int) := by
    rw [← Rat.neg_divInt_neg]
    exact new_den (by have := HQ1.out; omega) (by rw [HD.out]; rw [if_neg (by have := HQ1.out; omega)]; exact hqr)
  clear hqr
  rw [hem] at hrm
  clear hem
  obtain ⟨sm, Am, nm, cm, rfl⟩ := hrm.form
  obtain ⟨sn, An, nn, cn, rfl⟩ := hrn.form
  have ownm := hrm
  have own2 := ownm; clear ownm
  obtain ⟨W9, hW, hbx, km, kn⟩ := box2 hrm hrn
  have kaz := ka.below hbx
  have kRz := kR.below hbx
  have hT9 := hT.trans (hbx.mono hT.size)
  have hra9 := hra.below hbx
  have hrm9 := own2.below hbx
  have gR : w.heap.size ≤ w.heap.size + 1 + 1 := by omega
  rw [hW] at kaz kRz km kn hT9 hra9 hrm9
  have z0 := kaz.c0
  have z1 := kaz.c1
  have y0 := km.c0
  have y1 := km.c1
  have r0 := kRz.blk.cell 0
  have r1 := kRz.blk.cell 1
  have r2 := kRz.blk.cell 2
  have r3 := kRz.blk.cell 3
  have q0 := kRz.blk.frozen 0
  have q1 := kRz.blk.frozen 1
  have q2 := kRz.blk.frozen 2
  have q3 := kRz.blk.frozen 3
  simp at r0 r1 r2 r3
  have hbs := kRz.blk.set4 (.int .i64 sa) (.slice Aa na ca) (.int .i64 sm) (.slice Am nm cm)
  have x0 := hbs.cell 0
  have x1 := hbs.cell 1
  have x2 := hbs.cell 2
  have x3 := hbs.cell 3
  simp at x0 x1 x2 x3
  go_wp2_with fail
  refine bodyPost_ret (v := .tuple #[.agg #[.int .i64 sa, .slice Aa na ca, .int .i64 sm, .slice Am nm cm], .int .i64 0]) (by simp [results, Try.results41, go_sem, x0, x1, x2, x3]) rfl ?_
  exact ⟨_, rfl, FO.mk2 ((hra9.far4 hltA _ _ _ _).mono (by omega)) ((hrm9.far4 hltM _ _ _ _).mono (by omega)), below_st4 hT9 gR _ _ _ _⟩


set_option maxRecDepth 100000 in
set_option maxHeartbeats 4000000 in
theorem rnew_zero (s1 s2 : Int) (A1 A2 : Option Addr) (n1 d1 n2 d2 : Nat) (p : Int) (w : World) (h1 : BV w w.heap.size (.agg #[.int .i64 s1, .slice A1 n1 d1]) p) (h2 : BV w w.heap.size (.agg #[.int .i64 s2, .slice A2 n2 d2]) 0) (hp : ab p < pw 60) :
    Calls Try.prog 41 #[.agg #[.int .i64 s1, .slice A1 n1 d1], .agg #[.int .i64 s2, .slice A2 n2 d2]] w fun e w' => e = .returned (.tuple #[.agg #[.int .i64 0, .slice none 0 0, .int .i64 0, .slice none 0 0], .int .i64 15]) ∧ Below w.heap.size w w' := by
  have HKp := Lib.hid hp; clear hp
  have hz : ab (0 : Int) < pw 60 := by rw [ab_zero]; exact pw_pos 60
  have HKq := Lib.hid hz; clear hz
  go_enter Try.func41, Try.ntmps41
  go_wp2_with fail
  obtain ⟨W0, hW, hbx, kp, kq, kR⟩ := nboxes h1 h2
  rw [← hW]
  clear hW h1 h2
  have hT := hbx
  have hs2 : s2 = 0 := kq.s0
  subst hs2
  have p0 := kp.c0
  have p1 := kp.c1
  go_wp2_with fail
  clear p0 p1
  (with_reducible refine (rRight_yes kp.bv HKp.out).mono ?_)
  rintro e u1 ⟨rfl, hb9⟩
  replace hT := hT.trans (hb9.mono hT.size)
  replace kq := kq.below hb9
  replace kR := kR.below hb9
  have p0 := kq.c0
  have p1 := kq.c1
  go_wp2_with fail
  clear p0 p1
  (with_reducible refine (rRight_yes kq.bv HKq.out).mono ?_)
  rintro e u2 ⟨rfl, hb9⟩
  replace hT := hT.trans (hb9.mono hT.size)
  replace kq := kq.below hb9
  replace kR := kR.below hb9
  have hkR := kR.blk
  have qq0 := kq.c0
  have r0 := hkR.cell 0
  have r1 := hkR.cell 1
  have r2 := hkR.cell 2
  have r3 := hkR.cell 3
  have q0' := hkR.frozen 0
  have q1' := hkR.frozen 1
  have q2' := hkR.frozen 2
  have q3' := hkR.frozen 3
  simp at r0 r1 r2 r3
  have hbs := hkR.set4 (.int .i64 0) (.slice none 0 0) (.int .i64 0) (.slice none 0 0)
  have x0 := hbs.cell 0
  have x1 := hbs.cell 1
  have x2 := hbs.cell 2
  have x3 := hbs.cell 3
  simp at x0 x1 x2 x3
  have gR : w.heap.size ≤ w.heap.size + 1 + 1 := by omega
  go_wp2_with fail
  refine bodyPost_ret (v := .tuple #[.agg #[.int .i64 0, .slice none 0 0, .int .i64 0, .slice none 0 0], .int .i64 15]) (by simp [results, Try.results41, go_sem, x0, x1, x2, x3]) rfl ?_
  exact ⟨rfl, below_st4 hT gR _ _ _ _⟩


set_option maxRecDepth 100000 in
set_option maxHeartbeats 4000000 in
theorem rnew_bad {s1 s2 : Int} {l1 l2 : List Int} {A1 A2 : Option Addr} {n1 d1 n2 d2 : Nat} (w : World) (h1 : Ar w s1 l1 A1 n1 d1) (h2 : Ar w s2 l2 A2 n2 d2) (hb : ¬ (RightP s1 l1 ∧ RightP s2 l2)) :
    Calls Try.prog 41 #[.agg #[.int .i64 s1, .slice A1 n1 d1], .agg #[.int .i64 s2, .slice A2 n2 d2]] w fun e w' => e = .returned (.tuple #[.agg #[.int .i64 0, .slice none 0 0, .int .i64 0, .slice none 0 0], .int .i64 1]) ∧ Below w.heap.size w w' := by
  have H1 := Lib.hid h1
  have H2 := Lib.hid h2
  go_enter Try.func41, Try.ntmps41
  go_wp2_with fail
  obtain ⟨W1, hW1, hbx1, k1, k2⟩ := abox2 h1 h2
  obtain ⟨W0, hW⟩ : ∃ W, W = W1.alloc (.cells #[.int .i64 0, .slice none 0 0, .int .i64 0, .slice none 0 0] 40) := ⟨_, rfl⟩
  have hs : W1.heap.size = w.heap.size + 1 + 1 := by rw [hW1]; simp
  have hT : Below w.heap.size w W0 := by rw [hW]; exact hbx1.alloc hbx1.size _
  have ha1 : Blk W0 w.heap.size 38 #[.int .i64 s1, .slice A1 n1 d1] := by rw [hW]; exact k1.blk.alloc _
  have ha2 : Blk W0 (w.heap.size + 1) 38 #[.int .i64 s2, .slice A2 n2 d2] := by rw [hW]; exact k2.blk.alloc _
  have hkR : Blk W0 (w.heap.size + 1 + 1) 40 #[.int .i64 0, .slice none 0 0, .int .i64 0, .slice none 0 0] := by rw [hW, ← hs]; exact Blk.new _ _ _
  rw [hW1] at hW
  rw [← hW]
  clear hW hW1 k1 k2 hbx1 h1 h2 hs
  have p0 : W0.cell? ⟨w.heap.size, 0, none⟩ = some (.int .i64 s1) := ha1.cell 0
  have p1 : W0.cell? ⟨w.heap.size, 1, none⟩ = some (.slice A1 n1 d1) := ha1.cell 1
  go_wp2_with fail
  clear p0 p1
  by_cases hr1 : RightP s1 l1
  rotate_left
  · refine (rRight_any s1 l1 A1 n1 d1 _ (H1.out.later hT) false (by simp [hr1])).mono ?_
    rintro e u1 ⟨rfl, hb9⟩
    replace hT := hT.trans (hb9.mono hT.size)
    replace hkR := hkR.below hb9 hkR.lt
    have r0 := hkR.cell 0
    have r1 := hkR.cell 1
    have r2 := hkR.cell 2
    have r3 := hkR.cell 3
    have q0' := hkR.frozen 0
    have q1' := hkR.frozen 1
    have q2' := hkR.frozen 2
    have q3' := hkR.frozen 3
    simp at r0 r1 r2 r3
    have hbs := hkR.set4 (.int .i64 0) (.slice none 0 0) (.int .i64 0) (.slice none 0 0)
    have x0 := hbs.cell 0
    have x1 := hbs.cell 1
    have x2 := hbs.cell 2
    have x3 := hbs.cell 3
    simp at x0 x1 x2 x3
    have gR : w.heap.size ≤ w.heap.size + 1 + 1 := by omega
    go_wp2_with fail
    refine bodyPost_ret (v := .tuple #[.agg #[.int .i64 0, .slice none 0 0, .int .i64 0, .slice none 0 0], .int .i64 1]) (by simp [results, Try.results41, go_sem, x0, x1, x2, x3]) rfl ?_
    exact ⟨rfl, below_st4 hT gR _ _ _ _⟩
  have hr2 : ¬ RightP s2 l2 := fun h => hb ⟨hr1, h⟩
  refine (rRight_any s1 l1 A1 n1 d1 _ (H1.out.later hT) true (by simp [hr1])).mono ?_
  rintro e u1 ⟨rfl, hb9⟩
  replace hT := hT.trans (hb9.mono hT.size)
  replace hkR := hkR.below hb9 hkR.lt
  replace ha2 := ha2.below hb9 ha2.lt
  have p0 : u1.cell? ⟨w.heap.size + 1, 0, none⟩ = some (.int .i64 s2) := ha2.cell 0
  have p1 : u1.cell? ⟨w.heap.size + 1, 1, none⟩ = some (.slice A2 n2 d2) := ha2.cell 1
  go_wp2_with fail
  clear p0 p1
  refine (rRight_any s2 l2 A2 n2 d2 _ (H2.out.later hT) false (by simp [hr2])).mono ?_
  rintro e u2 ⟨rfl, hb9⟩
  replace hT := hT.trans (hb9.mono hT.size)
  replace hkR := hkR.below hb9 hkR.lt
  have r0 := hkR.cell 0
  have r1 := hkR.cell 1
  have r2 := hkR.cell 2
  have r3 := hkR.cell 3
  have q0' := hkR.frozen 0
  have q1' := hkR.frozen 1
  have q2' := hkR.frozen 2
  have q3' := hkR.frozen 3
  simp at r0 r1 r2 r3
  have hbs := hkR.set4 (.int .i64 0) (.slice none 0 0) (.int .i64 0) (.slice none 0 0)
  have x0 := hbs.cell 0
  have x1 := hbs.cell 1
  have x2 := hbs.cell 2
  have x3 := hbs.cell 3
  simp at x0 x1 x2 x3
  have gR : w.heap.size ≤ w.heap.size + 1 + 1 := by omega
  go_wp2_with fail
  refine bodyPost_ret (v := .tuple #[.agg #[.int .i64 0, .slice none 0 0, .int .i64 0, .slice none 0 0], .int .i64 1]) (by simp [results, Try.results41, go_sem, x0, x1, x2, x3]) rfl ?_
  exact ⟨rfl, below_st4 hT gR _ _ _ _⟩

theorem rnew_any (s1 s2 : Int) (A1 A2 : Option Addr) (n1 d1 n2 d2 : Nat) (p q : Int) (w : World) (h1 : BV w w.heap.size (.agg #[.int .i64 s1, .slice A1 n1 d1]) p) (h2 : BV w w.heap.size (.agg #[.int .i64 s2, .slice A2 n2 d2]) q) (hp : ab p < pw 60) (hq : ab q < pw 60) :
    Calls Try.prog 41 #[.agg #[.int .i64 s1, .slice A1 n1 d1], .agg #[.int .i64 s2, .slice A2 n2 d2]] w (NewP p q w) := by
  unfold NewP newE newN newD
  rcases Int.lt_trichotomy q 0 with h | h | h
  · rw [if_neg (by omega), if_neg (by omega), if_neg (by omega)]
    exact rnew_neg s1 s2 A1 A2 n1 d1 n2 d2 p q w h1 h2 hp hq h
  · subst h
    rw [if_pos rfl, if_pos rfl, if_pos rfl]
    exact (rnew_zero s1 s2 A1 A2 n1 d1 n2 d2 p w h1 h2 hp).mono fun e w' ⟨he, hb⟩ => ⟨_, he, FO.zero _ _, hb⟩
  · rw [if_neg (by omega), if_neg (by omega), if_neg (by omega)]
    exact rnew_pos s1 s2 A1 A2 n1 d1 n2 d2 p q w h1 h2 hp hq h

end Go.Proofs.Ytlbjaimgoiimgaa

namespace Go.Proofs.Ytlbjaimgoiimgaa
open Go.RowKit

set_option maxRecDepth 100000 in
set_option maxHeartbeats 8000000 in
theorem rfof_any (p q : Int) (w : World) (hp : isI p) (hq : isI q) : Calls Try.prog 26 #[.int .i64 p, .int .i64 q] w (NewP p q w) := by
  have H1 := Lib.hid hp; clear hp
  have H2 := Lib.hid hq; clear hq
  unfold NewP
  obtain ⟨E, hE⟩ : ∃ E, newE q = E := ⟨_, rfl⟩
  obtain ⟨P, hP⟩ : ∃ E, newN p q = E := ⟨_, rfl⟩
  obtain ⟨Q, hQ⟩ : ∃ E, newD p q = E := ⟨_, rfl⟩
  rw [hE, hP, hQ]
  have HE := Lib.hid hE; clear hE
  have HP := Lib.hid hP; clear hP
  have HQ := Lib.hid hQ; clear hQ
  go_enter Try.func26, Try.ntmps26
  go_wp2_with fail
  obtain ⟨W0, hW⟩ : ∃ W, W = w.alloc (.cells #[.int .i64 0, .slice none 0 0, .int .i64 0, .slice none 0 0] 40) := ⟨_, rfl⟩
  have hT : Below w.heap.size w W0 := by rw [hW]; exact (Below.refl _ _).alloc (Nat.le_refl _) _
  have kR : Bz W0 w.heap.size (.int .i64 0) (.slice none 0 0) (.int .i64 0) (.slice none 0 0) := ⟨by rw [hW]; exact Blk.new _ _ _⟩
  rw [← hW]
  clear hW
  (with_reducible refine (rof_any _ _ H1.out.lo H1.out.hi).mono ?_)
  rintro e u1 ⟨r1, rfl, hr1, hb1⟩
  have hT := hT.trans (hb1.mono hT.size)
  have kR := kR.below hb1
  obtain ⟨s1, A1, n1, c1, rfl⟩ := hr1.form
  go_wp2_with fail
  (with_reducible refine (rof_any _ _ H2.out.lo H2.out.hi).mono ?_)
  rintro e u2 ⟨r2, rfl, hr2, hb2⟩
  have hT := hT.trans (hb2.mono hT.size)
  have kR := kR.below hb2
  have hv1 := hr1.bv.later hb2
  obtain ⟨s2, A2, n2, c2, rfl⟩ := hr2.form
  go_wp2_with fail
  have hlt := kR.blk.lt
  (with_reducible refine (rnew_any _ _ _ _ _ _ _ _ _ _ _ hv1 hr2.bv H1.out.lt H2.out.lt).mono ?_)
  rintro e u3 ⟨rr, rfl, hrr, hb9⟩
  have hT := hT.trans (hb9.mono hT.size)
  have kR := kR.below hb9
  clear hr1 hr2 hv1
  rw [HP.out, HQ.out] at hrr
  rw [HE.out]
  obtain ⟨t1, C1, m1, e1, t2, C2, m2, e2, rfl, g1, g2⟩ := hrr
  have gR : w.heap.size ≤ w.heap.size := Nat.le_refl _
  have r0 := kR.blk.cell 0
  have r1 := kR.blk.cell 1
  have r2 := kR.blk.cell 2
  have r3 := kR.blk.cell 3
  have q0' := kR.blk.frozen 0
  have q1' := kR.blk.frozen 1
  have q2' := kR.blk.frozen 2
  have q3' := kR.blk.frozen 3
  simp at r0 r1 r2 r3
  have hbs := kR.blk.set4 (.int .i64 t1) (.slice C1 m1 e1) (.int .i64 t2) (.slice C2 m2 e2)
  have x0 := hbs.cell 0
  have x1 := hbs.cell 1
  have x2 := hbs.cell 2
  have x3 := hbs.cell 3
  simp at x0 x1 x2 x3
  go_wp2_with fail
  refine bodyPost_ret (v := .tuple #[.agg #[.int .i64 t1, .slice C1 m1 e1, .int .i64 t2, .slice C2 m2 e2], .int .i64 E]) (by simp [results, Try.results26, go_sem, x0, x1, x2, x3]) rfl ?_
  exact ⟨_, rfl, FO.mk2 ((g1.far4 hlt _ _ _ _).mono (by omega)) ((g2.far4 hlt _ _ _ _).mono (by omega)), below_st4 hT gR _ _ _ _⟩


end Go.Proofs.Ytlbjaimgoiimgaa

namespace Go.Proofs.Ytlbjaimgoiimgaa
open Go.RowKit

end Go.Proofs.Ytlbjaimgoiimgaa

namespace Go.Proofs.Ytlbjaimgoiimgaa
open Go.RowKit

end Go.Proofs.Ytlbjaimgoiimgaa

namespace Go.Proofs.Ytlbjaimgoiimgaa
open Go.RowKit

/-- Nothing has turned but new blocks, and the blocks of S. -/
def Fr (S : Nat → Prop) (w w' : World) : Prop :=
  w'.os = w.os ∧ w'.tape = w.tape ∧ w'.output = w.output ∧ w.heap.size ≤ w'.heap.size ∧ ∀ b, b < w.heap.size → ¬ S b → w'.heap[b]? = w.heap[b]?
theorem Fr.size {S : Nat → Prop} {w w' : World} (h : Fr S w w') : w.heap.size ≤ w'.heap.size := h.2.2.2.1
theorem Fr.of_below {S : Nat → Prop} {w w' : World} (h : Below w.heap.size w w') : Fr S w w' := ⟨h.os, h.tape, h.output, h.size, fun b hb _ => h.block b hb⟩
theorem Fr.refl (S : Nat → Prop) (w : World) : Fr S w w := ⟨rfl, rfl, rfl, Nat.le_refl _, fun _ _ _ => rfl⟩
theorem Fr.trans {S S' T : Nat → Prop} {w w' w'' : World} (h : Fr S w w') (h' : Fr S' w' w'') (h1 : ∀ b, S b → T b) (h2 : ∀ b, b < w.heap.size → S' b → T b) : Fr T w w'' :=
  ⟨h'.1.trans h.1, h'.2.1.trans h.2.1, h'.2.2.1.trans h.2.2.1, Nat.le_trans h.size h'.size, fun b hb hn =>
    (h'.2.2.2.2 b (Nat.lt_of_lt_of_le hb h.size) (fun hs => hn (h2 b hb hs))).trans (h.2.2.2.2 b hb (fun hs => hn (h1 b hs)))⟩
theorem Fr.tr {S : Nat → Prop} {w w' w'' : World} (h : Fr S w w') (h' : Fr S w' w'') : Fr S w w'' := h.trans h' (fun _ h => h) (fun _ _ h => h)
theorem Fr.more {S T : Nat → Prop} {w w' : World} (h : Fr S w w') (hS : ∀ b, S b → T b) : Fr T w w' := ⟨h.1, h.2.1, h.2.2.1, h.size, fun b hb hn => h.2.2.2.2 b hb (fun hs => hn (hS b hs))⟩
theorem Fr.below {S : Nat → Prop} {B : Nat} {w w' : World} (h : Fr S w w') (hS : ∀ b, S b → B ≤ b) (hB : B ≤ w.heap.size) : Below B w w' :=
  ⟨h.1, h.2.1, h.2.2.1, h.size, fun b hb => h.2.2.2.2 b (by omega) (fun hs => by have := hS b hs; omega)⟩
theorem Blk.fr {S : Nat → Prop} {w w' : World} {g : Nat} {t : TypeId} {cs : Array Value} (h : Blk w g t cs) (hf : Fr S w w') (hn : ¬ S g) : Blk w' g t cs := (hf.2.2.2.2 g h.lt hn).trans h

/-- A fraction as it lies: two integers. -/
structure Fc where
  s : Int
  A : Option Addr
  n : Nat
  c : Nat
  s' : Int
  A' : Option Addr
  n' : Nat
  c' : Nat
abbrev Fc.v (f : Fc) : Value := .agg #[.int .i64 f.s, .slice f.A f.n f.c, .int .i64 f.s', .slice f.A' f.n' f.c']
/-- The zero fraction of Go, which is not right. -/
abbrev fnil : Fc := ⟨0, none, 0, 0, 0, none, 0, 0⟩

theorem BV.fr {S : Nat → Prop} {w w' : World} {s : Int} {A : Option Addr} {n c : Nat} {z : Int} (h : BV w w.heap.size (.agg #[.int .i64 s, .slice A n c]) z) (hf : Fr S w w') (ho : ∀ a, A = some a → 0 < n → ¬ S a.block) : BV w' w'.heap.size (.agg #[.int .i64 s, .slice A n c]) z := by
  obtain ⟨A', c', e, h1, h2, h3⟩ := h
  refine ⟨A', c', e, h1, h2, fun k hk => ?_⟩
  obtain ⟨b, off, ea, hB, hc⟩ := h3 k hk
  injection e with e
  have e1 := congrArg (fun (a : Array Value) => a[1]?) e
  simp at e1
  obtain ⟨rfl, en, _⟩ := e1
  have hn := ho _ ea (by omega)
  exact ⟨b, off, ea, Nat.lt_of_lt_of_le hB hf.size, (World.cell?_of_block (a := ⟨b, off + k, none⟩) (hf.2.2.2.2 b hB hn)).trans hc⟩

/-- It reads as x; its digits lie outside S. -/
structure FA (S : Nat → Prop) (w : World) (f : Fc) (x : Rat) : Prop where
  fv : FV w w.heap.size f.s f.A f.n f.c f.s' f.A' f.n' f.c' x.num x.den
  rb : Rb x 60 60
  o1 : ∀ a, f.A = some a → 0 < f.n → ¬ S a.block
  o2 : ∀ a, f.A' = some a → 0 < f.n' → ¬ S a.block
theorem FA.fr {S : Nat → Prop} {w w' : World} {f : Fc} {x : Rat} (h : FA S w f x) (hf : Fr S w w') : FA S w' f x := ⟨⟨h.fv.a.fr hf h.o1, h.fv.b.fr hf h.o2⟩, h.rb, h.o1, h.o2⟩
theorem FA.below {S : Nat → Prop} {w w' : World} {f : Fc} {x : Rat} (h : FA S w f x) (hb : Below w.heap.size w w') : FA S w' f x := h.fr (Fr.of_below hb)
theorem FA.less {S T : Nat → Prop} {w : World} {f : Fc} {x : Rat} (h : FA S w f x) (hT : ∀ b, T b → S b) : FA T w f x := ⟨h.fv, h.rb, fun a ha h0 ht => h.o1 a ha h0 (hT _ ht), fun a ha h0 ht => h.o2 a ha h0 (hT _ ht)⟩
theorem OwnI.out {w : World} {B : Nat} {A : Option Addr} {n c : Nat} {l : List Int} (h : OwnI w B (.slice A n c) l) {a : Addr} (ha : A = some a) : B ≤ a.block ∧ a.block < w.heap.size := by
  subst ha
  rcases h.2 with ⟨hv, hn⟩ | ⟨g, cap', cur, hv, hb, hg, rest⟩
  · cases hv
  · injection hv with e1 e2 e3
    injection e1 with e1
    subst e1
    exact ⟨hb, (Array.getElem?_eq_some_iff.1 hg).1⟩
theorem FA.own {S : Nat → Prop} {w : World} {B : Nat} {f : Fc} {x : Rat} (h : FO w B f.v x.num x.den) (hS : ∀ b, S b → b < B) (rb : Rb x 60 60) : FA S w f x := by
  have hv := h.fv
  obtain ⟨s1, A1, n1, c1, s2, A2, n2, c2, e, ⟨v1, f1, g1⟩, ⟨v2, f2, g2⟩⟩ := h
  injection e with e
  have e1 := congrArg (fun (a : Array Value) => a[1]?) e
  have e3 := congrArg (fun (a : Array Value) => a[3]?) e
  simp at e1 e3
  obtain ⟨k1, k2, k3⟩ := e1
  obtain ⟨k4, k5, k6⟩ := e3
  injection f1 with f1
  have f1' := congrArg (fun (a : Array Value) => a[1]?) f1
  injection f2 with f2
  have f2' := congrArg (fun (a : Array Value) => a[1]?) f2
  simp at f1' f2'
  subst f1' f2'
  refine ⟨hv, rb, fun a ha _ hs => ?_, fun a ha _ hs => ?_⟩
  · have := (g1.out (k1.symm.trans ha)).1
    have := hS _ hs
    omega
  · have := (g2.out (k4.symm.trans ha)).1
    have := hS _ hs
    omega

/-- The fractions of a slice at address a. -/
def FsAt (S : Nat → Prop) (w : World) (A : Option Addr) (fs : List Fc) (xs : List Rat) : Prop :=
  fs.length = xs.length ∧ ∀ k, k < fs.length → ∃ b off, A = some ⟨b, off, none⟩ ∧ b < w.heap.size ∧ ¬ S b ∧
    w.cell? ⟨b, off + k * 4, none⟩ = some (.int .i64 (fs.getD k fnil).s) ∧ w.cell? ⟨b, off + k * 4 + 1, none⟩ = some (.slice (fs.getD k fnil).A (fs.getD k fnil).n (fs.getD k fnil).c) ∧
    w.cell? ⟨b, off + k * 4 + 2, none⟩ = some (.int .i64 (fs.getD k fnil).s') ∧ w.cell? ⟨b, off + k * 4 + 3, none⟩ = some (.slice (fs.getD k fnil).A' (fs.getD k fnil).n' (fs.getD k fnil).c') ∧ FA S w (fs.getD k fnil) (xs.getD k 0)
theorem FsAt.fr {S : Nat → Prop} {w w' : World} {A : Option Addr} {fs : List Fc} {xs : List Rat} (h : FsAt S w A fs xs) (hf : Fr S w w') : FsAt S w' A fs xs := ⟨h.1, fun k hk => by
  obtain ⟨b, off, e, hb, hn, h0, h1, h2, h3, h4⟩ := h.2 k hk
  have hc : ∀ i, w'.cell? ⟨b, i, none⟩ = w.cell? ⟨b, i, none⟩ := fun i => World.cell?_of_block (a := ⟨b, i, none⟩) (hf.2.2.2.2 b hb hn)
  exact ⟨b, off, e, Nat.lt_of_lt_of_le hb hf.size, hn, (hc _).trans h0, (hc _).trans h1, (hc _).trans h2, (hc _).trans h3, h4.fr hf⟩⟩

/-- The cells of a line. -/
def CellsL (cur : Array Value) (fs : List Fc) : Prop := ∀ k, k < fs.length →
  cur[k * 4]? = some (.int .i64 (fs.getD k fnil).s) ∧ cur[k * 4 + 1]? = some (.slice (fs.getD k fnil).A (fs.getD k fnil).n (fs.getD k fnil).c) ∧
  cur[k * 4 + 2]? = some (.int .i64 (fs.getD k fnil).s') ∧ cur[k * 4 + 3]? = some (.slice (fs.getD k fnil).A' (fs.getD k fnil).n' (fs.getD k fnil).c')
/-- A line that the call owns, in block g of S: it may be written. -/
def Line (S : Nat → Prop) (w : World) (g : Nat) (fs : List Fc) (xs : List Rat) : Prop :=
  S g ∧ fs.length = xs.length ∧ (∃ cur, Blk w g 40 cur ∧ CellsL cur fs) ∧ ∀ k, k < fs.length → FA S w (fs.getD k fnil) (xs.getD k 0)
theorem Line.lt {S : Nat → Prop} {w : World} {g : Nat} {fs : List Fc} {xs : List Rat} (h : Line S w g fs xs) : g < w.heap.size := by
  obtain ⟨_, _, ⟨_, hb, _⟩, _⟩ := h
  exact hb.lt
theorem Line.cells {S : Nat → Prop} {w : World} {g : Nat} {fs : List Fc} {xs : List Rat} (h : Line S w g fs xs) {k : Nat} (hk : k < fs.length) :
    w.cell? ⟨g, k * 4, none⟩ = some (.int .i64 (fs.getD k fnil).s) ∧ w.cell? ⟨g, k * 4 + 1, none⟩ = some (.slice (fs.getD k fnil).A (fs.getD k fnil).n (fs.getD k fnil).c) ∧
    w.cell? ⟨g, k * 4 + 2, none⟩ = some (.int .i64 (fs.getD k fnil).s') ∧ w.cell? ⟨g, k * 4 + 3, none⟩ = some (.slice (fs.getD k fnil).A' (fs.getD k fnil).n' (fs.getD k fnil).c') ∧ FA S w (fs.getD k fnil) (xs.getD k 0) := by
  obtain ⟨_, _, ⟨cur, hb, hc⟩, hf⟩ := h
  obtain ⟨c0, c1, c2, c3⟩ := hc k hk
  exact ⟨(hb.cell _).trans c0, (hb.cell _).trans c1, (hb.cell _).trans c2, (hb.cell _).trans c3, hf k hk⟩
theorem Line.frozen {S : Nat → Prop} {w : World} {g : Nat} {fs : List Fc} {xs : List Rat} (h : Line S w g fs xs) (i : Nat) : w.frozen? ⟨g, i, none⟩ = false := by
  obtain ⟨_, _, ⟨cur, hb, hc⟩, hf⟩ := h
  exact hb.frozen i
theorem Line.below {S : Nat → Prop} {w w' : World} {g : Nat} {fs : List Fc} {xs : List Rat} (h : Line S w g fs xs) (hb : Below w.heap.size w w') : Line S w' g fs xs := by
  obtain ⟨h1, h2, ⟨cur, hb', hc⟩, hf⟩ := h
  exact ⟨h1, h2, ⟨cur, hb'.below hb hb'.lt, hc⟩, fun k hk => (hf k hk).below hb⟩
/-- Another line of S stays, where one is written. -/
theorem Line.far {S : Nat → Prop} {w w' : World} {g : Nat} {fs : List Fc} {xs : List Rat} (h : Line S w g fs xs) (hf : Fr S w w') (hg : w'.heap[g]? = w.heap[g]?) : Line S w' g fs xs := by
  obtain ⟨h1, h2, ⟨cur, hb', hc⟩, hf'⟩ := h
  exact ⟨h1, h2, ⟨cur, hg.trans hb', hc⟩, fun k hk => (hf' k hk).fr hf⟩
theorem getD_set_self {α : Type} {l : List α} {d a : α} {k : Nat} (h : k < l.length) : (l.set k a).getD k d = a := by
  rw [List.getD_eq_getElem?_getD, List.getElem?_set_self h]; rfl
theorem getD_set_ne {α : Type} {l : List α} {d a : α} {k j : Nat} (h : k ≠ j) : (l.set k a).getD j d = l.getD j d := by
  rw [List.getD_eq_getElem?_getD, List.getElem?_set_ne h, List.getD_eq_getElem?_getD]
/-- A fraction is stored into a line. -/
theorem Line.store {S : Nat → Prop} {w : World} {g : Nat} {fs : List Fc} {xs : List Rat} (h : Line S w g fs xs) {k : Nat} (hk : k < fs.length) {f : Fc} {x : Rat} (hx : FA S w f x) :
    ∃ V, V = (((w.setCell ⟨g, k * 4, none⟩ (.int .i64 f.s)).setCell ⟨g, k * 4 + 1, none⟩ (.slice f.A f.n f.c)).setCell ⟨g, k * 4 + 2, none⟩ (.int .i64 f.s')).setCell ⟨g, k * 4 + 3, none⟩ (.slice f.A' f.n' f.c') ∧
      Line S V g (fs.set k f) (xs.set k x) ∧ Fr S w V ∧ V.heap.size = w.heap.size ∧ ∀ b, b ≠ g → V.heap[b]? = w.heap[b]? := by
  obtain ⟨h1, h2, ⟨cur, hb, hc⟩, hf⟩ := h
  refine ⟨_, rfl, ?_⟩
  have hb4 := (((hb.set_ (k * 4) (.int .i64 f.s)).set_ (k * 4 + 1) (.slice f.A f.n f.c)).set_ (k * 4 + 2) (.int .i64 f.s')).set_ (k * 4 + 3) (.slice f.A' f.n' f.c')
  have hfar : ∀ b, b ≠ g → ((((w.setCell ⟨g, k * 4, none⟩ (.int .i64 f.s)).setCell ⟨g, k * 4 + 1, none⟩ (.slice f.A f.n f.c)).setCell ⟨g, k * 4 + 2, none⟩ (.int .i64 f.s')).setCell ⟨g, k * 4 + 3, none⟩ (.slice f.A' f.n' f.c')).heap[b]? = w.heap[b]? := fun b hne =>
    (Below.heap_setCell _ _ _ b hne).trans ((Below.heap_setCell _ _ _ b hne).trans ((Below.heap_setCell _ _ _ b hne).trans (Below.heap_setCell _ _ _ b hne)))
  have hsz : ((((w.setCell ⟨g, k * 4, none⟩ (.int .i64 f.s)).setCell ⟨g, k * 4 + 1, none⟩ (.slice f.A f.n f.c)).setCell ⟨g, k * 4 + 2, none⟩ (.int .i64 f.s')).setCell ⟨g, k * 4 + 3, none⟩ (.slice f.A' f.n' f.c')).heap.size = w.heap.size := by simp
  have hfr : Fr S w ((((w.setCell ⟨g, k * 4, none⟩ (.int .i64 f.s)).setCell ⟨g, k * 4 + 1, none⟩ (.slice f.A f.n f.c)).setCell ⟨g, k * 4 + 2, none⟩ (.int .i64 f.s')).setCell ⟨g, k * 4 + 3, none⟩ (.slice f.A' f.n' f.c')) :=
    ⟨by simp [World.setCell], by simp [World.setCell], by simp [World.setCell], by simp, fun b _ hn => hfar b (fun e => hn (e ▸ h1))⟩
  refine ⟨⟨h1, by simp [h2], ⟨_, hb4, ?_⟩, ?_⟩, hfr, hsz, hfar⟩
  · intro j hj
    rw [List.length_set] at hj
    obtain ⟨c0, c1, c2, c3⟩ := hc j hj
    obtain ⟨d0, d1, d2, d3⟩ := hc k hk
    by_cases hjk : k = j
    · subst hjk
      rw [getD_set_self hk]
      have b0 := (Array.getElem?_eq_some_iff.1 d0).1
      have b1 := (Array.getElem?_eq_some_iff.1 d1).1
      have b2 := (Array.getElem?_eq_some_iff.1 d2).1
      have b3 := (Array.getElem?_eq_some_iff.1 d3).1
      simp [b0, b1, b2, b3]
    · rw [getD_set_ne hjk]
      refine ⟨?_, ?_, ?_, ?_⟩
      · rw [Array.getElem?_setIfInBounds_ne, Array.getElem?_setIfInBounds_ne, Array.getElem?_setIfInBounds_ne, Array.getElem?_setIfInBounds_ne] <;> first | exact c0 | omega
      · rw [Array.getElem?_setIfInBounds_ne, Array.getElem?_setIfInBounds_ne, Array.getElem?_setIfInBounds_ne, Array.getElem?_setIfInBounds_ne] <;> first | exact c1 | omega
      · rw [Array.getElem?_setIfInBounds_ne, Array.getElem?_setIfInBounds_ne, Array.getElem?_setIfInBounds_ne, Array.getElem?_setIfInBounds_ne] <;> first | exact c2 | omega
      · rw [Array.getElem?_setIfInBounds_ne, Array.getElem?_setIfInBounds_ne, Array.getElem?_setIfInBounds_ne, Array.getElem?_setIfInBounds_ne] <;> first | exact c3 | omega
  · intro j hj
    rw [List.length_set] at hj
    by_cases hjk : k = j
    · subst hjk
      rw [getD_set_self hk, getD_set_self (by omega)]
      exact hx.fr hfr
    · rw [getD_set_ne hjk, getD_set_ne hjk]
      exact (hf j hj).fr hfr
/-- A line, read. -/
theorem Line.at_ {S : Nat → Prop} {w : World} {g : Nat} {fs : List Fc} {xs : List Rat} (h : Line S w g fs xs) {k : Nat} (hk : k < fs.length) : g < w.heap.size ∧ FA S w (fs.getD k fnil) (xs.getD k 0) := ⟨h.lt, h.2.2.2 k hk⟩

section
variable (x y : Rat)
/-- Where there is room for an operation. -/
def okAdd : Prop := ab (x.num * y.den) < pw 60 ∧ ab (y.num * x.den) < pw 60 ∧ ab (x.num * y.den + y.num * x.den) < pw 60 ∧ ab ((x.den : Int) * y.den) < pw 60
def okSub : Prop := ab (x.num * y.den) < pw 60 ∧ ab (y.num * x.den) < pw 60 ∧ ab (x.num * y.den - y.num * x.den) < pw 60 ∧ ab ((x.den : Int) * y.den) < pw 60
def okMul : Prop := ab (x.num * y.num) < pw 60 ∧ ab ((x.den : Int) * y.den) < pw 60
def okDiv : Prop := ab (x.num * y.den) < pw 60 ∧ ab ((x.den : Int) * y.num) < pw 60
instance : Decidable (okAdd x y) := by unfold okAdd; infer_instance
instance : Decidable (okSub x y) := by unfold okSub; infer_instance
instance : Decidable (okMul x y) := by unfold okMul; infer_instance
instance : Decidable (okDiv x y) := by unfold okDiv; infer_instance
def oAdd : Option Rat := if okAdd x y then some (x + y) else none
def oSub : Option Rat := if okSub x y then some (x - y) else none
def oMul : Option Rat := if okMul x y then some (x * y) else none
def oDiv : Option Rat := if okDiv x y then some (x / y) else none
end
theorem Rb.one {x : Rat} (h : Rb x 60 60) : okMul x 0 := by
  unfold okMul
  rw [(show (0 : Rat).num = 0 from rfl), (show (0 : Rat).den = 1 from rfl), Int.mul_zero, ab_zero, Int.natCast_one, Int.mul_one]
  exact ⟨pw_pos 60, h.d⟩
theorem oMul_zero {x : Rat} (h : Rb x 60 60) : oMul x 0 = some 0 := by
  unfold oMul
  rw [if_pos h.one, Rat.mul_zero]
theorem oSub_zero {x : Rat} (h : Rb x 60 60) : oSub x 0 = some x := by
  unfold oSub
  have : okSub x 0 := by
    unfold okSub
    rw [(show (0 : Rat).num = 0 from rfl), (show (0 : Rat).den = 1 from rfl), Int.zero_mul, ab_zero, Int.natCast_one, Int.mul_one, Int.mul_one, Int.sub_zero]
    exact ⟨h.n, pw_pos 60, h.n, h.d⟩
  rw [if_pos this]
  congr 1
  grind
/-- What an operation hands back: the fraction with OK, or nothing with ErrFull. -/
def OpY (x : Rat) (w : World) (e : Ending) (w' : World) : Prop := ∃ f : Fc, e = .returned (.tuple #[f.v, .int .i64 0]) ∧ FO w' w.heap.size f.v x.num x.den ∧ Rb x 60 60 ∧ Below w.heap.size w w'
def OpN (w : World) (e : Ending) (w' : World) : Prop := e = .returned (.tuple #[.agg #[.int .i64 0, .slice none 0 0, .int .i64 0, .slice none 0 0], .int .i64 6]) ∧ Below w.heap.size w w'
theorem op_new {P Q : Int} {x : Rat} {w w' : World} {e : Ending} (hQ : Q ≠ 0) (hP1 : ab P < pw 60) (hQ1 : ab Q < pw 60) (hx : Rat.divInt P Q = x) (h : NewP P Q w e w') : OpY x w e w' := by
  obtain ⟨r, rfl, hr, hb⟩ := h
  unfold newE newN newD at *
  rw [if_neg hQ] at hr ⊢
  rw [if_neg hQ] at hr
  subst hx
  obtain ⟨s1, A1, n1, c1, s2, A2, n2, c2, rfl⟩ := hr.form
  exact ⟨⟨s1, A1, n1, c1, s2, A2, n2, c2⟩, rfl, hr, ⟨num_lt hQ hP1, den_lt hQ hQ1⟩, hb⟩
theorem op_qp {P Q : Int} {x : Rat} {w w' : World} {e : Ending} (hQ : Q ≠ 0) (hP1 : ab P < pw 60) (hQ1 : ab Q < pw 60) (hx : Rat.divInt P Q = x) (h : QP P Q w e w') : OpY x w e w' := by
  refine op_new hQ hP1 hQ1 hx ?_
  unfold QP QE QN QD at h
  rw [if_pos ⟨hP1, hQ1⟩, if_pos ⟨hP1, hQ1⟩, if_pos ⟨hP1, hQ1⟩] at h
  exact h
theorem op_qn {P Q : Int} {w w' : World} {e : Ending} (hn : ¬ (ab P < pw 60 ∧ ab Q < pw 60)) (h : QP P Q w e w') : ∃ r, e = .returned (.tuple #[r, .int .i64 6]) ∧ FO w' w.heap.size r 0 0 ∧ Below w.heap.size w w' := by
  unfold QP QE QN QD at h
  rw [if_neg hn, if_neg hn, if_neg hn] at h
  exact h
theorem fadd_y {S T : Nat → Prop} {w : World} {f g : Fc} {x y : Rat} (hx : FA S w f x) (hy : FA T w g y) (h : okAdd x y) :
    Calls Try.prog 21 #[f.v, g.v] w (OpY (x + y) w) :=
  (fadd_fit _ _ _ _ _ _ _ _ _ _ _ _ _ _ _ _ _ _ _ _ w hx.fv hy.fv hx.rb.n hx.rb.d hy.rb.n hy.rb.d (FR.of x) (FR.of y) h.1 h.2.1 h.2.2.1 h.2.2.2).mono fun _ _ hp => op_new (den2_ne x y) h.2.2.1 h.2.2.2 (rat_add x y) hp
theorem fadd_n {S T : Nat → Prop} {w : World} {f g : Fc} {x y : Rat} (hx : FA S w f x) (hy : FA T w g y) (h : ¬ okAdd x y) :
    Calls Try.prog 21 #[f.v, g.v] w (OpN w) :=
  fadd_full _ _ _ _ _ _ _ _ _ _ _ _ _ _ _ _ _ _ _ _ w hx.fv hy.fv hx.rb.n hx.rb.d hy.rb.n hy.rb.d (FR.of x) (FR.of y) h
theorem fsub_y {S T : Nat → Prop} {w : World} {f g : Fc} {x y : Rat} (hx : FA S w f x) (hy : FA T w g y) (h : okSub x y) :
    Calls Try.prog 30 #[f.v, g.v] w (OpY (x - y) w) :=
  (fsub_fit _ _ _ _ _ _ _ _ _ _ _ _ _ _ _ _ _ _ _ _ w hx.fv hy.fv hx.rb.n hx.rb.d hy.rb.n hy.rb.d (FR.of x) (FR.of y) h.1 h.2.1 h.2.2.1 h.2.2.2).mono fun _ _ hp => op_new (den2_ne x y) h.2.2.1 h.2.2.2 (rat_sub x y) hp
theorem fsub_n {S T : Nat → Prop} {w : World} {f g : Fc} {x y : Rat} (hx : FA S w f x) (hy : FA T w g y) (h : ¬ okSub x y) :
    Calls Try.prog 30 #[f.v, g.v] w (OpN w) :=
  fsub_full _ _ _ _ _ _ _ _ _ _ _ _ _ _ _ _ _ _ _ _ w hx.fv hy.fv hx.rb.n hx.rb.d hy.rb.n hy.rb.d (FR.of x) (FR.of y) h
theorem fmul_y {S T : Nat → Prop} {w : World} {f g : Fc} {x y : Rat} (hx : FA S w f x) (hy : FA T w g y) (h : okMul x y) :
    Calls Try.prog 36 #[f.v, g.v] w (OpY (x * y) w) :=
  (fmul_any _ _ _ _ _ _ _ _ _ _ _ _ _ _ _ _ _ _ _ _ w hx.fv hy.fv hx.rb.n hx.rb.d hy.rb.n hy.rb.d (FR.of x) (FR.of y)).mono fun _ _ hp => op_qp (den2_ne x y) h.1 h.2 (rat_mul x y) hp
theorem fmul_n {S T : Nat → Prop} {w : World} {f g : Fc} {x y : Rat} (hx : FA S w f x) (hy : FA T w g y) (h : ¬ okMul x y) :
    Calls Try.prog 36 #[f.v, g.v] w (fun e w' => ∃ r : Fc, e = .returned (.tuple #[r.v, .int .i64 6]) ∧ Below w.heap.size w w') :=
  (fmul_any _ _ _ _ _ _ _ _ _ _ _ _ _ _ _ _ _ _ _ _ w hx.fv hy.fv hx.rb.n hx.rb.d hy.rb.n hy.rb.d (FR.of x) (FR.of y)).mono fun _ _ hp => by
    obtain ⟨r, h1, h2, h3⟩ := op_qn h hp
    obtain ⟨s1, A1, n1, c1, s2, A2, n2, c2, rfl⟩ := h2.form
    exact ⟨⟨s1, A1, n1, c1, s2, A2, n2, c2⟩, h1, h3⟩
theorem fdiv_y {S T : Nat → Prop} {w : World} {f g : Fc} {x y : Rat} (hx : FA S w f x) (hy : FA T w g y) (h0 : y ≠ 0) (h : okDiv x y) :
    Calls Try.prog 77 #[f.v, g.v] w (OpY (x / y) w) :=
  (fdiv_any _ _ _ _ _ _ _ _ _ _ _ _ _ _ _ _ _ _ _ _ w hx.fv hy.fv hx.rb.n hx.rb.d hy.rb.n hy.rb.d (FR.of x) (FR.of y)).mono fun _ _ hp => op_qp (Int.mul_ne_zero (den_ne x) (num_ne h0)) h.1 h.2 (rat_div x y) hp
theorem fdiv_n {S T : Nat → Prop} {w : World} {f g : Fc} {x y : Rat} (hx : FA S w f x) (hy : FA T w g y) (h : ¬ okDiv x y) :
    Calls Try.prog 77 #[f.v, g.v] w (fun e w' => ∃ r : Fc, e = .returned (.tuple #[r.v, .int .i64 6]) ∧ Below w.heap.size w w') :=
  (fdiv_any _ _ _ _ _ _ _ _ _ _ _ _ _ _ _ _ _ _ _ _ w hx.fv hy.fv hx.rb.n hx.rb.d hy.rb.n hy.rb.d (FR.of x) (FR.of y)).mono fun _ _ hp => by
    obtain ⟨r, h1, h2, h3⟩ := op_qn h hp
    obtain ⟨s1, A1, n1, c1, s2, A2, n2, c2, rfl⟩ := h2.form
    exact ⟨⟨s1, A1, n1, c1, s2, A2, n2, c2⟩, h1, h3⟩
/-- Of an int and 1. -/
theorem divInt_one (k : Int) : Rat.divInt k 1 = (k : Rat) := Rat.num_divInt_den (k : Rat)
theorem fof_y (k : Int) (w : World) (hk : isI k) (h1 : isI 1) (hb : ab k < pw 60) : Calls Try.prog 45 #[.int .i64 k, .int .i64 1] w (OpY (k : Rat) w) :=
  (fof_any k 1 w hk h1).mono fun _ _ hp => op_new (by decide) hb (by have := pw_le (show 1 ≤ 60 by decide); have e : ab (1 : Int) < pw 1 := by decide
                                                                     omega) (divInt_one k) hp
theorem rfof_y (k : Int) (w : World) (hk : isI k) (h1 : isI 1) (hb : ab k < pw 60) : Calls Try.prog 26 #[.int .i64 k, .int .i64 1] w (OpY (k : Rat) w) :=
  (rfof_any k 1 w hk h1).mono fun _ _ hp => op_new (by decide) hb (by have := pw_le (show 1 ≤ 60 by decide); have e : ab (1 : Int) < pw 1 := by decide
                                                                      omega) (divInt_one k) hp

end Go.Proofs.Ytlbjaimgoiimgaa

namespace Go.Proofs.Ytlbjaimgoiimgaa
open Go.RowKit

/-- F on every element, with its place, until one fails. -/
def mapO (F : Nat → Rat → Option Rat) : Nat → List Rat → Option (List Rat)
  | _, [] => some []
  | i, x :: xs => (F i x).bind fun q => (mapO F (i + 1) xs).map (q :: ·)
theorem mapO_append (F : Nat → Rat → Option Rat) (i : Nat) (xs ys : List Rat) : mapO F i (xs ++ ys) = (mapO F i xs).bind fun a => (mapO F (i + xs.length) ys).map (a ++ ·) := by
  induction xs generalizing i with
  | nil => simp [mapO]
  | cons x xs ih =>
    rw [List.cons_append, mapO, mapO, ih, List.length_cons, show i + 1 + xs.length = i + (xs.length + 1) by omega]
    cases F i x with
    | none => rfl
    | some q =>
      cases mapO F (i + 1) xs with
      | none => rfl
      | some a =>
        cases mapO F (i + (xs.length + 1)) ys with
        | none => rfl
        | some b => rfl
theorem mapO_length {F : Nat → Rat → Option Rat} {i : Nat} {xs ys : List Rat} (h : mapO F i xs = some ys) : ys.length = xs.length := by
  induction xs generalizing i ys with
  | nil => simp [mapO] at h; subst h; rfl
  | cons x xs ih =>
    rw [mapO] at h
    cases hq : F i x with
    | none => rw [hq] at h; cases h
    | some q =>
      rw [hq] at h
      cases hm : mapO F (i + 1) xs with
      | none => rw [hm] at h; cases h
      | some a => rw [hm] at h; simp at h; subst h; rw [List.length_cons, List.length_cons, ih hm]
/-- What is done up to the place i: ys; the rest is left. -/
structure Part (F : Nat → Rat → Option Rat) (xs ys : List Rat) (i : Nat) : Prop where
  len : ys.length = i
  le : i ≤ xs.length
  rest : mapO F 0 xs = (mapO F i (xs.drop i)).map (ys ++ ·)
theorem Part.start (F : Nat → Rat → Option Rat) (xs : List Rat) : Part F xs [] 0 := ⟨rfl, Nat.zero_le _, by simp⟩
theorem drop_getD {xs : List Rat} {i : Nat} (h : i < xs.length) : xs.drop i = xs.getD i 0 :: xs.drop (i + 1) := by
  rw [List.drop_eq_getElem_cons h, List.getD_eq_getElem?_getD, List.getElem?_eq_getElem h]; rfl
theorem Part.step {F : Nat → Rat → Option Rat} {xs ys : List Rat} {i : Nat} (h : Part F xs ys i) (hi : i < xs.length) {q : Rat} (hq : F i (xs.getD i 0) = some q) : Part F xs (ys ++ [q]) (i + 1) := by
  refine ⟨by simp [h.len], by omega, ?_⟩
  rw [h.rest, drop_getD hi, mapO, hq]
  cases mapO F (i + 1) (xs.drop (i + 1)) with
  | none => rfl
  | some a => simp
theorem Part.fail {F : Nat → Rat → Option Rat} {xs ys : List Rat} {i : Nat} (h : Part F xs ys i) (hi : i < xs.length) (hq : F i (xs.getD i 0) = none) : mapO F 0 xs = none := by
  rw [h.rest, drop_getD hi, mapO, hq]
  rfl
theorem Part.done {F : Nat → Rat → Option Rat} {xs ys : List Rat} (h : Part F xs ys xs.length) : mapO F 0 xs = some ys := by
  rw [h.rest, List.drop_length, mapO]
  simp
/-- The list as it lies now. -/
theorem Part.now {F : Nat → Rat → Option Rat} {xs ys : List Rat} {i : Nat} (h : Part F xs ys i) : (ys ++ xs.drop i).getD i 0 = xs.getD i 0 := by
  rw [List.getD_eq_getElem?_getD, List.getElem?_append_right (by rw [h.len]; exact Nat.le_refl _), h.len, Nat.sub_self, List.getElem?_drop, Nat.add_zero, List.getD_eq_getElem?_getD]
theorem Part.set_ {F : Nat → Rat → Option Rat} {xs ys : List Rat} {i : Nat} (h : Part F xs ys i) (hi : i < xs.length) (q : Rat) : (ys ++ xs.drop i).set i q = (ys ++ [q]) ++ xs.drop (i + 1) := by
  rw [List.set_append_right _ _ (by rw [h.len]; exact Nat.le_refl _), h.len, Nat.sub_self, drop_getD hi, List.set_cons_zero]
  simp
theorem Part.keep {xs ys : List Rat} {i : Nat} (hi : i < xs.length) : (ys ++ [xs.getD i 0]) ++ xs.drop (i + 1) = ys ++ xs.drop i := by
  rw [drop_getD hi]
  simp

/-- A line divided; a line less so many times another one. -/
def divL (y : Rat) (xs : List Rat) : Option (List Rat) := mapO (fun _ x => oDiv x y) 0 xs
def subL (f : Rat) (p : List Rat) (xs : List Rat) : Option (List Rat) := mapO (fun i x => (oMul f (p.getD i 0)).bind (oSub x)) 0 xs

theorem FA.zero {S : Nat → Prop} {w : World} {f : Fc} {x : Rat} (h : FA S w f x) : (f.s == 0) = decide (x = 0) := by
  have e : f.s = sgn x.num := (bv_sv h.fv.a).2.1
  rw [e]
  by_cases hx : x = 0
  · subst hx
    rfl
  · rw [decide_eq_false hx, beq_eq_false_iff_ne]
    exact fun h => num_ne hx (sgn_eq_zero h)

set_option maxRecDepth 100000 in
set_option maxHeartbeats 2000000 in
theorem isZero_any {S : Nat → Prop} {w : World} {f : Fc} {x : Rat} (h : FA S w f x) (b : Bool) (hb : decide (x = 0) = b) :
    Calls Try.prog 58 #[f.v] w fun e w' => e = .returned (.bool b) ∧ Below w.heap.size w w' := by
  have hz := h.zero
  rw [hb] at hz
  clear h hb
  obtain ⟨s1, A1, n1, c1, s2, A2, n2, c2⟩ := f
  simp only at hz
  go_enter Try.func58, Try.ntmps58
  go_wp2_with fail
  cases b with
  | true =>
    go_wp2_with fail
    go_ret
    exact ⟨rfl, (Below.refl _ _).alloc (Nat.le_refl _) _⟩
  | false =>
    go_wp2_with fail
    go_ret
    exact ⟨rfl, (Below.refl _ _).alloc (Nat.le_refl _) _⟩

end Go.Proofs.Ytlbjaimgoiimgaa
