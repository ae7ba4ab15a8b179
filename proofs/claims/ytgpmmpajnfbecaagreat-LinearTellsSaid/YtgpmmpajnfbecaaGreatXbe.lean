/- Walks: the reference's New of fractions. Printed by a program (rfnew.py). Walks: the reference's made and Of of fractions. Printed by a program (rfops.py). Walks: the reference's Add and Sub of right fractions. Printed by a program (rfops.py). -/
import Derived.Test.YtgpmmpajnfbecaaGreatXbd
import Derived.Test.YtgpmmpajnfbecaaGreatXaq
import Derived.Test.YtgpmmpajnfbecaaGreatXau

namespace Go.Proofs.YtgpmmpajnfbecaaGreat
open Go.RowKit

set_option maxRecDepth 100000 in
set_option maxHeartbeats 8000000 in
theorem rnew_pos (s1 s2 : Int) (A1 A2 : Option Addr) (n1 d1 n2 d2 : Nat) (p q : Int) (w : World) (h1 : BV w w.heap.size (.agg #[.int .i64 s1, .slice A1 n1 d1]) p) (h2 : BV w w.heap.size (.agg #[.int .i64 s2, .slice A2 n2 d2]) q) (hp : ab p < pw 60) (hq : ab q < pw 60) (hq0 : 0 < q) :
    Calls Tryz.prog 36 #[.agg #[.int .i64 s1, .slice A1 n1 d1], .agg #[.int .i64 s2, .slice A2 n2 d2]] w fun e w' => ∃ r, e = .returned (.tuple #[r, .int .i64 0]) ∧ FO w' w.heap.size r (Rat.divInt p q).num (((Rat.divInt p q).den : Nat) : Int) ∧ Below w.heap.size w w' := by
  have HKp := Lib.hid hp; clear hp
  have HKq := Lib.hid hq; clear hq
  have HQ0 := Lib.hid hq0; clear hq0
  have nbq_p := Nb.low h2 (Nat.le_refl _)
  go_enter Tryz.func36, Tryz.ntmps36
  go_wp2_with fail
  obtain ⟨W0, hW, hbx, kp, kq, kR⟩ := nboxes h1 h2
  rw [← hW]
  clear hW h1 h2
  have hT := hbx
  have hs2 : s2 = 1 := by rw [kq.sg]; exact sgn_pos HQ0.out
  subst hs2
  have kp0 := kp.c0
  have kp1 := kp.c1
  go_wp2_with fail
  clear kp0 kp1
  (with_reducible refine (rRight_yes kp.bv HKp.out).mono ?_)
  rintro e u1 ⟨rfl, hb9⟩
  have hT := hT.trans (hb9.mono hT.size)
  have kp := kp.below hb9
  have kq := kq.below hb9
  have kR := kR.below hb9
  have kq0 := kq.c0
  have kq1 := kq.c1
  go_wp2_with fail
  clear kq0 kq1
  (with_reducible refine (rRight_yes kq.bv HKq.out).mono ?_)
  rintro e u2 ⟨rfl, hb9⟩
  have hT := hT.trans (hb9.mono hT.size)
  have kp := kp.below hb9
  have kq := kq.below hb9
  have kR := kR.below hb9
  obtain ⟨d, hd⟩ : ∃ d, ((Int.gcd p q : Nat) : Int) = d := ⟨_, rfl⟩
  have hq1 : 0 < q := by have := HQ0.out; omega
  have hdp : 0 < d := by rw [← hd]; exact gcd_pos (.inr (by omega))
  have hkd : ab d < pw 60 := by rw [← hd]; exact gcd_lt HKp.out HKq.out
  have HQ1 := Lib.hid hq1; clear hq1
  have HKd := Lib.hid hkd; clear hkd
  have HDP := Lib.hid hdp; clear hdp
  have HD := Lib.hid hd; clear hd
  have kp0 := kp.c0
  have kp1 := kp.c1
  have kq0 := kq.c0
  have kq1 := kq.c1
  go_wp2_with fail
  clear kp0 kp1 kq0 kq1
  (with_reducible refine (rgcd_any _ kp.bv kq.bv HKp.out HKq.out).mono ?_)
  rintro e u3 ⟨rd, rfl, hrd, hb9⟩
  have hT := hT.trans (hb9.mono hT.size)
  have kp := kp.below hb9
  have kq := kq.below hb9
  have kR := kR.below hb9
  rw [HD.out] at hrd
  obtain ⟨sd, Ad, nd, cd, rfl⟩ := hrd.form
  have kqz := kq.below ((Below.refl _ u3).alloc (Nat.le_refl _) (.cells #[.int .i64 sd, .slice Ad nd cd] 39))
  have kqz0 := kqz.c0
  have kqz1 := kqz.c1
  have kpz := kp.below ((Below.refl _ u3).alloc (Nat.le_refl _) (.cells #[.int .i64 sd, .slice Ad nd cd] 39))
  have kpz0 := kpz.c0
  have kpz1 := kpz.c1
  go_wp2_with fail
  clear kqz0 kqz1
  clear kqz
  clear kpz0 kpz1
  clear kpz
  obtain ⟨Wd, hW, hbx, kd⟩ := box1 hrd
  rw [← hW]
  clear hW
  have hT := hT.trans (hbx.mono hT.size)
  have kp := kp.below hbx
  have kq := kq.below hbx
  have kR := kR.below hbx
  have hdn : d ≠ 0 := by have := HDP.out; omega
  have HDN := Lib.hid hdn; clear hdn
  have hltA := kR.blk.lt
  (with_reducible refine (rdiv_any _ kp.bv kd.bv HKp.out HKd.out HDN.out).mono ?_)
  rintro e u4 ⟨ra, rb, av, bv, rfl, hra, hrb, hqr, hb9⟩
  have hT := hT.trans (hb9.mono hT.size)
  have kp := kp.below hb9
  have kq := kq.below hb9
  have kR := kR.below hb9
  have kd := kd.below hb9
  have hea : av = (Rat.divInt p q).num := by
    skip
    exact new_num (by have := HQ1.out; omega) (by rw [HD.out]; rw [if_neg (by have := HQ1.out; omega)]; exact hqr)
  clear hqr
  rw [hea] at hra
  clear hea
  obtain ⟨sa, Aa, na, ca, rfl⟩ := hra.form
  obtain ⟨sb, Ab, nb, cb, rfl⟩ := hrb.form
  have owna := hra
  have hBa := hT.size
  have kqz := kq.below (((Below.refl _ u4).alloc (Nat.le_refl _) (.cells #[.int .i64 sa, .slice Aa na ca] 39)).alloc (by simp) (.cells #[.int .i64 sb, .slice Ab nb cb] 39))
  have kqz0 := kqz.c0
  have kqz1 := kqz.c1
  have kdz := kd.below (((Below.refl _ u4).alloc (Nat.le_refl _) (.cells #[.int .i64 sa, .slice Aa na ca] 39)).alloc (by simp) (.cells #[.int .i64 sb, .slice Ab nb cb] 39))
  have kdz0 := kdz.c0
  have kdz1 := kdz.c1
  go_wp2_with fail
  clear kqz0 kqz1
  clear kqz
  clear kdz0 kdz1
  clear kdz
  obtain ⟨Wa, hW, hbx, ka, kb⟩ := box2 hra hrb
  rw [← hW]
  clear hW
  have hT := hT.trans (hbx.mono hT.size)
  have kp := kp.below hbx
  have kq := kq.below hbx
  have kR := kR.below hbx
  have kd := kd.below hbx
  clear kb kp
  have hra := owna.below hbx; clear owna
  have hltM := kR.blk.lt
  (with_reducible refine (rdiv_any _ kq.bv kd.bv HKq.out HKd.out HDN.out).mono ?_)
  rintro e u5 ⟨rm, rn, mv, nv, rfl, hrm, hrn, hqr, hb9⟩
  have hT := hT.trans (hb9.mono hT.size)
  have kq := kq.below hb9
  have kR := kR.below hb9
  have kd := kd.below hb9
  have ka := ka.below hb9
  have hra := hra.below hb9
  have hem : mv = (((Rat.divInt p q).den : Nat) : Int) := by
    skip
    exact new_den (by have := HQ1.out; omega) (by rw [HD.out]; rw [if_neg (by have := HQ1.out; omega)]; exact hqr)
  clear hqr
  rw [hem] at hrm
  clear hem
  obtain ⟨sm, Am, nm, cm, rfl⟩ := hrm.form
  obtain ⟨sn, An, nn, cn, rfl⟩ := hrn.form
  have ownm := hrm
  have own2 := ownm; clear ownm
  obtain ⟨W9, hW, hbx, km, kn⟩ := box2 hrm hrn
  have kaz := ka.below hbx
  have kRz := kR.below hbx
  have hT9 := hT.trans (hbx.mono hT.size)
  have hra9 := hra.below hbx
  have hrm9 := own2.below hbx
  have gR : w.heap.size ≤ w.heap.size + 1 + 1 := by omega
  rw [hW] at kaz kRz km kn hT9 hra9 hrm9
  have z0 := kaz.c0
  have z1 := kaz.c1
  have y0 := km.c0
  have y1 := km.c1
  have r0 := kRz.blk.cell 0
  have r1 := kRz.blk.cell 1
  have r2 := kRz.blk.cell 2
  have r3 := kRz.blk.cell 3
  have q0 := kRz.blk.frozen 0
  have q1 := kRz.blk.frozen 1
  have q2 := kRz.blk.frozen 2
  have q3 := kRz.blk.frozen 3
  simp at r0 r1 r2 r3
  have hbs := kRz.blk.set4 (.int .i64 sa) (.slice Aa na ca) (.int .i64 sm) (.slice Am nm cm)
  have x0 := hbs.cell 0
  have x1 := hbs.cell 1
  have x2 := hbs.cell 2
  have x3 := hbs.cell 3
  simp at x0 x1 x2 x3
  go_wp2_with fail
  refine bodyPost_ret (v := .tuple #[.agg #[.int .i64 sa, .slice Aa na ca, .int .i64 sm, .slice Am nm cm], .int .i64 0]) (by simp [results, Tryz.results36, go_sem, x0, x1, x2, x3]) rfl ?_
  exact ⟨_, rfl, FO.mk2 ((hra9.far4 hltA _ _ _ _).mono (by omega)) ((hrm9.far4 hltM _ _ _ _).mono (by omega)), below_st4 hT9 gR _ _ _ _⟩

set_option maxRecDepth 100000 in
set_option maxHeartbeats 8000000 in
theorem rnew_neg (s1 s2 : Int) (A1 A2 : Option Addr) (n1 d1 n2 d2 : Nat) (p q : Int) (w : World) (h1 : BV w w.heap.size (.agg #[.int .i64 s1, .slice A1 n1 d1]) p) (h2 : BV w w.heap.size (.agg #[.int .i64 s2, .slice A2 n2 d2]) q) (hp : ab p < pw 60) (hq : ab q < pw 60) (hq0 : q < 0) :
    Calls Tryz.prog 36 #[.agg #[.int .i64 s1, .slice A1 n1 d1], .agg #[.int .i64 s2, .slice A2 n2 d2]] w fun e w' => ∃ r, e = .returned (.tuple #[r, .int .i64 0]) ∧ FO w' w.heap.size r (Rat.divInt p q).num (((Rat.divInt p q).den : Nat) : Int) ∧ Below w.heap.size w w' := by
  have HKp := Lib.hid hp; clear hp
  have HKq := Lib.hid hq; clear hq
  have HQ0 := Lib.hid hq0; clear hq0
  have nbq_p := Nb.low h2 (Nat.le_refl _)
  go_enter Tryz.func36, Tryz.ntmps36
  go_wp2_with fail
  obtain ⟨W0, hW, hbx, kp, kq, kR⟩ := nboxes h1 h2
  rw [← hW]
  clear hW h1 h2
  have hT := hbx
  have hs2 : s2 = -1 := by rw [kq.sg]; exact sgn_of_neg HQ0.out
  subst hs2
  have kp0 := kp.c0
  have kp1 := kp.c1
  go_wp2_with fail
  clear kp0 kp1
  (with_reducible refine (rRight_yes kp.bv HKp.out).mono ?_)
  rintro e u1 ⟨rfl, hb9⟩
  have hT := hT.trans (hb9.mono hT.size)
  have kp := kp.below hb9
  have kq := kq.below hb9
  have kR := kR.below hb9
  have kq0 := kq.c0
  have kq1 := kq.c1
  go_wp2_with fail
  clear kq0 kq1
  (with_reducible refine (rRight_yes kq.bv HKq.out).mono ?_)
  rintro e u2 ⟨rfl, hb9⟩
  have hT := hT.trans (hb9.mono hT.size)
  have kp := kp.below hb9
  have kq := kq.below hb9
  have kR := kR.below hb9
  have kp0 := kp.c0
  have kp1 := kp.c1
  have kq0 := kq.c0
  have kq1 := kq.c1
  go_wp2_with fail
  clear kp0 kp1 kq0 kq1
  have neq_p : w.heap.size + 1 ≠ w.heap.size := by omega
  have nep_q : w.heap.size ≠ w.heap.size + 1 := by omega
  have nbR_p : True := trivial
  have nbR_q : True := trivial
  have neR_p : w.heap.size + 1 + 1 ≠ w.heap.size := by omega
  have neR_q : w.heap.size + 1 + 1 ≠ w.heap.size + 1 := by omega
  have gep : w.heap.size ≤ w.heap.size := Nat.le_refl _
  have geq : w.heap.size ≤ w.heap.size + 1 := Nat.le_succ _
  have ltp := kp.blk.lt
  have ltq := kq.blk.lt
  (with_reducible refine (rneg_any _ kp.bv HKp.out).mono ?_)
  rintro e u3 ⟨rv, rfl, hrv, hb9⟩
  have hT := hT.trans (hb9.mono hT.size)
  have kp := kp.below hb9
  have kq := kq.below hb9
  have kR := kR.below hb9
  have HKv : Hid (ab (-p) < pw 60) := Lib.hid (by rw [ab_neg]; exact HKp.out)
  obtain ⟨sv, Av, nv, cv, rfl⟩ := hrv.form
  have nbv_p := Nb.high hrv ltp
  have nbv_q := Nb.high hrv ltq
  have t0 := kp.c0
  have t1 := kp.c1
  have f0 := kp.blk.frozen 0
  have f1 := kp.blk.frozen 1
  have kqz := kq.set2 neq_p nbq_p (.int .i64 sv) (.slice Av nv cv)
  have kRz := kR.set2 neR_p nbR_p (.int .i64 sv) (.slice Av nv cv)
  have kpz := kp.put hrv.bv nbv_p
  have kqz0 := kqz.c0
  have kqz1 := kqz.c1
  go_wp2_with fail
  clear kqz0 kqz1
  clear t0 t1 f0 f1
  have kp := kpz; clear kpz
  have kq := kqz; clear kqz
  have kR := kRz; clear kRz
  have hT := (hT.setCell (p := ⟨_, 0, none⟩) gep (.int .i64 sv)).setCell (p := ⟨_, 1, none⟩) gep (.slice Av nv cv)
  generalize (u3.setCell ⟨w.heap.size, 0, none⟩ (.int .i64 sv)).setCell ⟨w.heap.size, 1, none⟩ (.slice Av nv cv) = Vv at *
  have HKp := HKv
  have nbp_q := nbv_q
  have ltp := kp.blk.lt
  have ltq := kq.blk.lt
  (with_reducible refine (rneg_any _ kq.bv HKq.out).mono ?_)
  rintro e u4 ⟨rz, rfl, hrz, hb9⟩
  have hT := hT.trans (hb9.mono hT.size)
  have kp := kp.below hb9
  have kq := kq.below hb9
  have kR := kR.below hb9
  have HKz : Hid (ab (-q) < pw 60) := Lib.hid (by rw [ab_neg]; exact HKq.out)
  obtain ⟨sz, Az, nz, cz, rfl⟩ := hrz.form
  have nbz_p := Nb.high hrz ltp
  have nbz_q := Nb.high hrz ltq
  have t0 := kq.c0
  have t1 := kq.c1
  have f0 := kq.blk.frozen 0
  have f1 := kq.blk.frozen 1
  have kpz := kp.set2 nep_q nbp_q (.int .i64 sz) (.slice Az nz cz)
  have kRz := kR.set2 neR_q nbR_q (.int .i64 sz) (.slice Az nz cz)
  have kqz := kq.put hrz.bv nbz_q
  have kpz0 := kpz.c0
  have kpz1 := kpz.c1
  have kqz0 := kqz.c0
  have kqz1 := kqz.c1
  go_wp2_with fail
  clear kpz0 kpz1
  clear kqz0 kqz1
  clear t0 t1 f0 f1
  have kp := kpz; clear kpz
  have kq := kqz; clear kqz
  have kR := kRz; clear kRz
  have hT := (hT.setCell (p := ⟨_, 0, none⟩) geq (.int .i64 sz)).setCell (p := ⟨_, 1, none⟩) geq (.slice Az nz cz)
  generalize (u4.setCell ⟨w.heap.size + 1, 0, none⟩ (.int .i64 sz)).setCell ⟨w.heap.size + 1, 1, none⟩ (.slice Az nz cz) = Vz at *
  have HKq := HKz
  have nbq_p := nbz_p
  obtain ⟨d, hd⟩ : ∃ d, ((Int.gcd (-p) (-q) : Nat) : Int) = d := ⟨_, rfl⟩
  have hq1 : 0 < (-q) := by have := HQ0.out; omega
  have hdp : 0 < d := by rw [← hd]; exact gcd_pos (.inr (by omega))
  have hkd : ab d < pw 60 := by rw [← hd]; exact gcd_lt HKp.out HKq.out
  have HQ1 := Lib.hid hq1; clear hq1
  have HKd := Lib.hid hkd; clear hkd
  have HDP := Lib.hid hdp; clear hdp
  have HD := Lib.hid hd; clear hd
  (with_reducible refine (rgcd_any _ kp.bv kq.bv HKp.out HKq.out).mono ?_)
  rintro e u5 ⟨rd, rfl, hrd, hb9⟩
  have hT := hT.trans (hb9.mono hT.size)
  have kp := kp.below hb9
  have kq := kq.below hb9
  have kR := kR.below hb9
  rw [HD.out] at hrd
  obtain ⟨sd, Ad, nd, cd, rfl⟩ := hrd.form
  have kqz := kq.below ((Below.refl _ u5).alloc (Nat.le_refl _) (.cells #[.int .i64 sd, .slice Ad nd cd] 39))
  have kqz0 := kqz.c0
  have kqz1 := kqz.c1
  have kpz := kp.below ((Below.refl _ u5).alloc (Nat.le_refl _) (.cells #[.int .i64 sd, .slice Ad nd cd] 39))
  have kpz0 := kpz.c0
  have kpz1 := kpz.c1
  go_wp2_with fail
  clear kqz0 kqz1
  clear kqz
  clear kpz0 kpz1
  clear kpz
  obtain ⟨Wd, hW, hbx, kd⟩ := box1 hrd
  rw [← hW]
  clear hW
  have hT := hT.trans (hbx.mono hT.size)
  have kp := kp.below hbx
  have kq := kq.below hbx
  have kR := kR.below hbx
  have hdn : d ≠ 0 := by have := HDP.out; omega
  have HDN := Lib.hid hdn; clear hdn
  have hltA := kR.blk.lt
  (with_reducible refine (rdiv_any _ kp.bv kd.bv HKp.out HKd.out HDN.out).mono ?_)
  rintro e u6 ⟨ra, rb, av, bv, rfl, hra, hrb, hqr, hb9⟩
  have hT := hT.trans (hb9.mono hT.size)
  have kp := kp.below hb9
  have kq := kq.below hb9
  have kR := kR.below hb9
  have kd := kd.below hb9
  have hea : av = (Rat.divInt p q).num := by
    rw [← Rat.neg_divInt_neg]
    exact new_num (by have := HQ1.out; omega) (by rw [HD.out]; rw [if_neg (by have := HQ1.out; omega)]; exact hqr)
  clear hqr
  rw [hea] at hra
  clear hea
  obtain ⟨sa, Aa, na, ca, rfl⟩ := hra.form
  obtain ⟨sb, Ab, nb, cb, rfl⟩ := hrb.form
  have owna := hra
  have hBa := hT.size
  have kqz := kq.below (((Below.refl _ u6).alloc (Nat.le_refl _) (.cells #[.int .i64 sa, .slice Aa na ca] 39)).alloc (by simp) (.cells #[.int .i64 sb, .slice Ab nb cb] 39))
  have kqz0 := kqz.c0
  have kqz1 := kqz.c1
  have kdz := kd.below (((Below.refl _ u6).alloc (Nat.le_refl _) (.cells #[.int .i64 sa, .slice Aa na ca] 39)).alloc (by simp) (.cells #[.int .i64 sb, .slice Ab nb cb] 39))
  have kdz0 := kdz.c0
  have kdz1 := kdz.c1
  go_wp2_with fail
  clear kqz0 kqz1
  clear kqz
  clear kdz0 kdz1
  clear kdz
  obtain ⟨Wa, hW, hbx, ka, kb⟩ := box2 hra hrb
  rw [← hW]
  clear hW
  have hT := hT.trans (hbx.mono hT.size)
  have kp := kp.below hbx
  have kq := kq.below hbx
  have kR := kR.below hbx
  have kd := kd.below hbx
  clear kb kp
  have hra := owna.below hbx; clear owna
  have hltM := kR.blk.lt
  (with_reducible refine (rdiv_any _ kq.bv kd.bv HKq.out HKd.out HDN.out).mono ?_)
  rintro e u7 ⟨rm, rn, mv, nv, rfl, hrm, hrn, hqr, hb9⟩
  have hT := hT.trans (hb9.mono hT.size)
  have kq := kq.below hb9
  have kR := kR.below hb9
  have kd := kd.below hb9
  have ka := ka.below hb9
  have hra := hra.below hb9
  have hem : mv = (((Rat.divInt p q).den : Nat) : Int) := by
    rw [← Rat.neg_divInt_neg]
    exact new_den (by have := HQ1.out; omega) (by rw [HD.out]; rw [if_neg (by have := HQ1.out; omega)]; exact hqr)
  clear hqr
  rw [hem] at hrm
  clear hem
  obtain ⟨sm, Am, nm, cm, rfl⟩ := hrm.form
  obtain ⟨sn, An, nn, cn, rfl⟩ := hrn.form
  have ownm := hrm
  have own2 := ownm; clear ownm
  obtain ⟨W9, hW, hbx, km, kn⟩ := box2 hrm hrn
  have kaz := ka.below hbx
  have kRz := kR.below hbx
  have hT9 := hT.trans (hbx.mono hT.size)
  have hra9 := hra.below hbx
  have hrm9 := own2.below hbx
  have gR : w.heap.size ≤ w.heap.size + 1 + 1 := by omega
  rw [hW] at kaz kRz km kn hT9 hra9 hrm9
  have z0 := kaz.c0
  have z1 := kaz.c1
  have y0 := km.c0
  have y1 := km.c1
  have r0 := kRz.blk.cell 0
  have r1 := kRz.blk.cell 1
  have r2 := kRz.blk.cell 2
  have r3 := kRz.blk.cell 3
  have q0 := kRz.blk.frozen 0
  have q1 := kRz.blk.frozen 1
  have q2 := kRz.blk.frozen 2
  have q3 := kRz.blk.frozen 3
  simp at r0 r1 r2 r3
  have hbs := kRz.blk.set4 (.int .i64 sa) (.slice Aa na ca) (.int .i64 sm) (.slice Am nm cm)
  have x0 := hbs.cell 0
  have x1 := hbs.cell 1
  have x2 := hbs.cell 2
  have x3 := hbs.cell 3
  simp at x0 x1 x2 x3
  go_wp2_with fail
  refine bodyPost_ret (v := .tuple #[.agg #[.int .i64 sa, .slice Aa na ca, .int .i64 sm, .slice Am nm cm], .int .i64 0]) (by simp [results, Tryz.results36, go_sem, x0, x1, x2, x3]) rfl ?_
  exact ⟨_, rfl, FO.mk2 ((hra9.far4 hltA _ _ _ _).mono (by omega)) ((hrm9.far4 hltM _ _ _ _).mono (by omega)), below_st4 hT9 gR _ _ _ _⟩


set_option maxRecDepth 100000 in
set_option maxHeartbeats 4000000 in
theorem rnew_zero (s1 s2 : Int) (A1 A2 : Option Addr) (n1 d1 n2 d2 : Nat) (p : Int) (w : World) (h1 : BV w w.heap.size (.agg #[.int .i64 s1, .slice A1 n1 d1]) p) (h2 : BV w w.heap.size (.agg #[.int .i64 s2, .slice A2 n2 d2]) 0) (hp : ab p < pw 60) :
    Calls Tryz.prog 36 #[.agg #[.int .i64 s1, .slice A1 n1 d1], .agg #[.int .i64 s2, .slice A2 n2 d2]] w fun e w' => e = .returned (.tuple #[.agg #[.int .i64 0, .slice none 0 0, .int .i64 0, .slice none 0 0], .int .i64 15]) ∧ Below w.heap.size w w' := by
  have HKp := Lib.hid hp; clear hp
  have hz : ab (0 : Int) < pw 60 := by rw [ab_zero]; exact pw_pos 60
  have HKq := Lib.hid hz; clear hz
  go_enter Tryz.func36, Tryz.ntmps36
  go_wp2_with fail
  obtain ⟨W0, hW, hbx, kp, kq, kR⟩ := nboxes h1 h2
  rw [← hW]
  clear hW h1 h2
  have hT := hbx
  have hs2 : s2 = 0 := kq.s0
  subst hs2
  have p0 := kp.c0
  have p1 := kp.c1
  go_wp2_with fail
  clear p0 p1
  (with_reducible refine (rRight_yes kp.bv HKp.out).mono ?_)
  rintro e u1 ⟨rfl, hb9⟩
  replace hT := hT.trans (hb9.mono hT.size)
  replace kq := kq.below hb9
  replace kR := kR.below hb9
  have p0 := kq.c0
  have p1 := kq.c1
  go_wp2_with fail
  clear p0 p1
  (with_reducible refine (rRight_yes kq.bv HKq.out).mono ?_)
  rintro e u2 ⟨rfl, hb9⟩
  replace hT := hT.trans (hb9.mono hT.size)
  replace kq := kq.below hb9
  replace kR := kR.below hb9
  have hkR := kR.blk
  have qq0 := kq.c0
  have r0 := hkR.cell 0
  have r1 := hkR.cell 1
  have r2 := hkR.cell 2
  have r3 := hkR.cell 3
  have q0' := hkR.frozen 0
  have q1' := hkR.frozen 1
  have q2' := hkR.frozen 2
  have q3' := hkR.frozen 3
  simp at r0 r1 r2 r3
  have hbs := hkR.set4 (.int .i64 0) (.slice none 0 0) (.int .i64 0) (.slice none 0 0)
  have x0 := hbs.cell 0
  have x1 := hbs.cell 1
  have x2 := hbs.cell 2
  have x3 := hbs.cell 3
  simp at x0 x1 x2 x3
  have gR : w.heap.size ≤ w.heap.size + 1 + 1 := by omega
  go_wp2_with fail
  refine bodyPost_ret (v := .tuple #[.agg #[.int .i64 0, .slice none 0 0, .int .i64 0, .slice none 0 0], .int .i64 15]) (by simp [results, Tryz.results36, go_sem, x0, x1, x2, x3]) rfl ?_
  exact ⟨rfl, below_st4 hT gR _ _ _ _⟩


theorem rnew_any (s1 s2 : Int) (A1 A2 : Option Addr) (n1 d1 n2 d2 : Nat) (p q : Int) (w : World) (h1 : BV w w.heap.size (.agg #[.int .i64 s1, .slice A1 n1 d1]) p) (h2 : BV w w.heap.size (.agg #[.int .i64 s2, .slice A2 n2 d2]) q) (hp : ab p < pw 60) (hq : ab q < pw 60) :
    Calls Tryz.prog 36 #[.agg #[.int .i64 s1, .slice A1 n1 d1], .agg #[.int .i64 s2, .slice A2 n2 d2]] w (NewP p q w) := by
  unfold NewP newE newN newD
  rcases Int.lt_trichotomy q 0 with h | h | h
  · rw [if_neg (by omega), if_neg (by omega), if_neg (by omega)]
    exact rnew_neg s1 s2 A1 A2 n1 d1 n2 d2 p q w h1 h2 hp hq h
  · subst h
    rw [if_pos rfl, if_pos rfl, if_pos rfl]
    exact (rnew_zero s1 s2 A1 A2 n1 d1 n2 d2 p w h1 h2 hp).mono fun e w' ⟨he, hb⟩ => ⟨_, he, FO.zero _ _, hb⟩
  · rw [if_neg (by omega), if_neg (by omega), if_neg (by omega)]
    exact rnew_pos s1 s2 A1 A2 n1 d1 n2 d2 p q w h1 h2 hp hq h

end Go.Proofs.YtgpmmpajnfbecaaGreat

namespace Go.Proofs.YtgpmmpajnfbecaaGreat
open Go.RowKit

theorem rfright_yes {s1 s2 : Int} {A1 A2 : Option Addr} {n1 d1 n2 d2 : Nat} {p q : Int} (w : World) (h : FV w w.heap.size s1 A1 n1 d1 s2 A2 n2 d2 p q) (hp : ab p < pw 60) (hq : ab q < pw 60) (hf : FR p q) :
    Calls Tryz.prog 31 #[.agg #[.int .i64 s1, .slice A1 n1 d1, .int .i64 s2, .slice A2 n2 d2]] w fun e w' => e = .returned (.bool true) ∧ Below w.heap.size w w' :=
  rfright_any w (bv_ar h.a) (bv_ar h.b) true ⟨fun _ => ⟨p, q, ⟨(bv_sv h.a).2.1, rfl, hp⟩, ⟨(bv_sv h.b).2.1, rfl, hq⟩, hf⟩, fun _ => rfl⟩

set_option maxRecDepth 100000 in
set_option maxHeartbeats 8000000 in
theorem rmade_bad (s1 s2 : Int) (A1 A2 : Option Addr) (n1 d1 n2 d2 : Nat) (p q : Int) (w : World) (h1 : BV w w.heap.size (.agg #[.int .i64 s1, .slice A1 n1 d1]) p) (h2 : BV w w.heap.size (.agg #[.int .i64 s2, .slice A2 n2 d2]) q) :
    Calls Tryz.prog 48 #[.agg #[.int .i64 s1, .slice A1 n1 d1], .agg #[.int .i64 s2, .slice A2 n2 d2], .bool true] w fun e w' => e = .returned (.tuple #[.agg #[.int .i64 0, .slice none 0 0, .int .i64 0, .slice none 0 0], .int .i64 6]) ∧ Below w.heap.size w w' := by
  go_enter Tryz.func48, Tryz.ntmps48
  go_wp2_with fail
  obtain ⟨W0, hW, hbx, kp, kq, kR⟩ := nboxes h1 h2
  rw [← hW]
  clear hW h1 h2 kp kq
  have r0 := kR.blk.cell 0
  have r1 := kR.blk.cell 1
  have r2 := kR.blk.cell 2
  have r3 := kR.blk.cell 3
  simp at r0 r1 r2 r3
  refine bodyPost_ret (v := .tuple #[.agg #[.int .i64 0, .slice none 0 0, .int .i64 0, .slice none 0 0], .int .i64 6]) (by simp [results, Tryz.results48, go_sem, r0, r1, r2, r3]) rfl ?_
  exact ⟨rfl, hbx⟩

set_option maxRecDepth 100000 in
set_option maxHeartbeats 8000000 in
theorem rmade_ok (s1 s2 : Int) (A1 A2 : Option Addr) (n1 d1 n2 d2 : Nat) (p q : Int) (w : World) (h1 : BV w w.heap.size (.agg #[.int .i64 s1, .slice A1 n1 d1]) p) (h2 : BV w w.heap.size (.agg #[.int .i64 s2, .slice A2 n2 d2]) q) (hp : ab p < pw 60) (hq : ab q < pw 60) :
    Calls Tryz.prog 48 #[.agg #[.int .i64 s1, .slice A1 n1 d1], .agg #[.int .i64 s2, .slice A2 n2 d2], .bool false] w (NewP p q w) := by
  have HKp := Lib.hid hp; clear hp
  have HKq := Lib.hid hq; clear hq
  unfold NewP
  obtain ⟨E, hE⟩ : ∃ E, newE q = E := ⟨_, rfl⟩
  obtain ⟨P, hP⟩ : ∃ E, newN p q = E := ⟨_, rfl⟩
  obtain ⟨Q, hQ⟩ : ∃ E, newD p q = E := ⟨_, rfl⟩
  rw [hE, hP, hQ]
  have HE := Lib.hid hE; clear hE
  have HP := Lib.hid hP; clear hP
  have HQ := Lib.hid hQ; clear hQ
  go_enter Tryz.func48, Tryz.ntmps48
  go_wp2_with fail
  obtain ⟨W0, hW, hbx, kp, kq, kR⟩ := nboxes h1 h2
  rw [← hW]
  clear hW h1 h2
  have hT := hbx
  have p0 := kp.c0
  have p1 := kp.c1
  have q0 := kq.c0
  have q1 := kq.c1
  go_wp2_with fail
  clear p0 p1 q0 q1
  have hlt := kR.blk.lt
  (with_reducible refine (rnew_any _ _ _ _ _ _ _ _ _ _ _ kp.bv kq.bv HKp.out HKq.out).mono ?_)
  rintro e u3 ⟨rr, rfl, hrr, hb9⟩
  have hT := hT.trans (hb9.mono hT.size)
  have kR := kR.below hb9
  clear kp kq
  rw [HP.out, HQ.out] at hrr
  rw [HE.out]
  obtain ⟨t1, C1, m1, e1, t2, C2, m2, e2, rfl, g1, g2⟩ := hrr
  have gR : w.heap.size ≤ w.heap.size + 1 + 1 := by omega
  have r0 := kR.blk.cell 0
  have r1 := kR.blk.cell 1
  have r2 := kR.blk.cell 2
  have r3 := kR.blk.cell 3
  have q0' := kR.blk.frozen 0
  have q1' := kR.blk.frozen 1
  have q2' := kR.blk.frozen 2
  have q3' := kR.blk.frozen 3
  simp at r0 r1 r2 r3
  have hbs := kR.blk.set4 (.int .i64 t1) (.slice C1 m1 e1) (.int .i64 t2) (.slice C2 m2 e2)
  have x0 := hbs.cell 0
  have x1 := hbs.cell 1
  have x2 := hbs.cell 2
  have x3 := hbs.cell 3
  simp at x0 x1 x2 x3
  go_wp2_with fail
  refine bodyPost_ret (v := .tuple #[.agg #[.int .i64 t1, .slice C1 m1 e1, .int .i64 t2, .slice C2 m2 e2], .int .i64 E]) (by simp [results, Tryz.results48, go_sem, x0, x1, x2, x3]) rfl ?_
  exact ⟨_, rfl, FO.mk2 ((g1.far4 hlt _ _ _ _).mono (by omega)) ((g2.far4 hlt _ _ _ _).mono (by omega)), below_st4 hT gR _ _ _ _⟩

set_option maxRecDepth 100000 in
set_option maxHeartbeats 8000000 in
theorem rfof_any (p q : Int) (w : World) (hp : isI p) (hq : isI q) : Calls Tryz.prog 19 #[.int .i64 p, .int .i64 q] w (NewP p q w) := by
  have H1 := Lib.hid hp; clear hp
  have H2 := Lib.hid hq; clear hq
  unfold NewP
  obtain ⟨E, hE⟩ : ∃ E, newE q = E := ⟨_, rfl⟩
  obtain ⟨P, hP⟩ : ∃ E, newN p q = E := ⟨_, rfl⟩
  obtain ⟨Q, hQ⟩ : ∃ E, newD p q = E := ⟨_, rfl⟩
  rw [hE, hP, hQ]
  have HE := Lib.hid hE; clear hE
  have HP := Lib.hid hP; clear hP
  have HQ := Lib.hid hQ; clear hQ
  go_enter Tryz.func19, Tryz.ntmps19
  go_wp2_with fail
  obtain ⟨W0, hW⟩ : ∃ W, W = w.alloc (.cells #[.int .i64 0, .slice none 0 0, .int .i64 0, .slice none 0 0] 41) := ⟨_, rfl⟩
  have hT : Below w.heap.size w W0 := by rw [hW]; exact (Below.refl _ _).alloc (Nat.le_refl _) _
  have kR : Bz W0 w.heap.size (.int .i64 0) (.slice none 0 0) (.int .i64 0) (.slice none 0 0) := ⟨by rw [hW]; exact Blk.new _ _ _⟩
  rw [← hW]
  clear hW
  (with_reducible refine (rof_any _ _ H1.out.lo H1.out.hi).mono ?_)
  rintro e u1 ⟨r1, rfl, hr1, hb1⟩
  have hT := hT.trans (hb1.mono hT.size)
  have kR := kR.below hb1
  obtain ⟨s1, A1, n1, c1, rfl⟩ := hr1.form
  go_wp2_with fail
  (with_reducible refine (rof_any _ _ H2.out.lo H2.out.hi).mono ?_)
  rintro e u2 ⟨r2, rfl, hr2, hb2⟩
  have hT := hT.trans (hb2.mono hT.size)
  have kR := kR.below hb2
  have hv1 := hr1.bv.later hb2
  obtain ⟨s2, A2, n2, c2, rfl⟩ := hr2.form
  go_wp2_with fail
  have hlt := kR.blk.lt
  (with_reducible refine (rnew_any _ _ _ _ _ _ _ _ _ _ _ hv1 hr2.bv H1.out.lt H2.out.lt).mono ?_)
  rintro e u3 ⟨rr, rfl, hrr, hb9⟩
  have hT := hT.trans (hb9.mono hT.size)
  have kR := kR.below hb9
  clear hr1 hr2 hv1
  rw [HP.out, HQ.out] at hrr
  rw [HE.out]
  obtain ⟨t1, C1, m1, e1, t2, C2, m2, e2, rfl, g1, g2⟩ := hrr
  have gR : w.heap.size ≤ w.heap.size := Nat.le_refl _
  have r0 := kR.blk.cell 0
  have r1 := kR.blk.cell 1
  have r2 := kR.blk.cell 2
  have r3 := kR.blk.cell 3
  have q0' := kR.blk.frozen 0
  have q1' := kR.blk.frozen 1
  have q2' := kR.blk.frozen 2
  have q3' := kR.blk.frozen 3
  simp at r0 r1 r2 r3
  have hbs := kR.blk.set4 (.int .i64 t1) (.slice C1 m1 e1) (.int .i64 t2) (.slice C2 m2 e2)
  have x0 := hbs.cell 0
  have x1 := hbs.cell 1
  have x2 := hbs.cell 2
  have x3 := hbs.cell 3
  simp at x0 x1 x2 x3
  go_wp2_with fail
  refine bodyPost_ret (v := .tuple #[.agg #[.int .i64 t1, .slice C1 m1 e1, .int .i64 t2, .slice C2 m2 e2], .int .i64 E]) (by simp [results, Tryz.results19, go_sem, x0, x1, x2, x3]) rfl ?_
  exact ⟨_, rfl, FO.mk2 ((g1.far4 hlt _ _ _ _).mono (by omega)) ((g2.far4 hlt _ _ _ _).mono (by omega)), below_st4 hT gR _ _ _ _⟩


end Go.Proofs.YtgpmmpajnfbecaaGreat

namespace Go.Proofs.YtgpmmpajnfbecaaGreat
open Go.RowKit

set_option maxRecDepth 100000 in
set_option maxHeartbeats 8000000 in
theorem rfadd_0 (s1 s2 s3 s4 : Int) (A1 A2 A3 A4 : Option Addr) (n1 d1 n2 d2 n3 d3 n4 d4 : Nat) (p1 q1 p2 q2 : Int) (w : World) (ha : FV w w.heap.size s1 A1 n1 d1 s2 A2 n2 d2 p1 q1) (hb : FV w w.heap.size s3 A3 n3 d3 s4 A4 n4 d4 p2 q2) (h1 : ab p1 < pw 60) (h2 : ab q1 < pw 60) (h3 : ab p2 < pw 60) (h4 : ab q2 < pw 60) (r1 : FR p1 q1) (r2 : FR p2 q2)  (f0 : ¬ ab (p1 * q2) < pw 60) :
    Calls Tryz.prog 35 #[.agg #[.int .i64 s1, .slice A1 n1 d1, .int .i64 s2, .slice A2 n2 d2], .agg #[.int .i64 s3, .slice A3 n3 d3, .int .i64 s4, .slice A4 n4 d4]] w fun e w' => e = .returned (.tuple #[.agg #[.int .i64 0, .slice none 0 0, .int .i64 0, .slice none 0 0], .int .i64 6]) ∧ Below w.heap.size w w' := by
  have H1 := Lib.hid h1; clear h1
  have H2 := Lib.hid h2; clear h2
  have H3 := Lib.hid h3; clear h3
  have H4 := Lib.hid h4; clear h4
  have F1 := Lib.hid r1; clear r1
  have F2 := Lib.hid r2; clear r2
  have G0 := Lib.hid f0; clear f0
  go_enter Tryz.func35, Tryz.ntmps35
  go_wp2_with fail
  obtain ⟨W0, hW, hbx, ka, kb, kR⟩ := fboxes2 ha hb
  rw [← hW]
  clear hW ha hb
  have hT := hbx
  have zka0 := ka.c0
  have zka1 := ka.c1
  have zka2 := ka.c2
  have zka3 := ka.c3
  go_wp2_with fail
  clear zka0 zka1 zka2 zka3
  (with_reducible refine (rfright_yes _ ka.fv H1.out H2.out F1.out).mono ?_)
  rintro e u1 ⟨rfl, hb9⟩
  replace hT := hT.trans (hb9.mono hT.size)
  replace ka := ka.below hb9
  replace kb := kb.below hb9
  replace kR := kR.below hb9
  have zkb0 := kb.c0
  have zkb1 := kb.c1
  have zkb2 := kb.c2
  have zkb3 := kb.c3
  go_wp2_with fail
  clear zkb0 zkb1 zkb2 zkb3
  (with_reducible refine (rfright_yes _ kb.fv H3.out H4.out F2.out).mono ?_)
  rintro e u2 ⟨rfl, hb9⟩
  replace hT := hT.trans (hb9.mono hT.size)
  replace ka := ka.below hb9
  replace kb := kb.below hb9
  replace kR := kR.below hb9
  have zka0 := ka.c0
  have zka1 := ka.c1
  have zkb2 := kb.c2
  have zkb3 := kb.c3
  go_wp2_with fail
  clear zka0 zka1 zkb2 zkb3
  (with_reducible refine (rmulb_any _ ka.fv.a kb.fv.b H1.out H4.out).mono ?_)
  rintro e v0 ⟨rr0, rfl, hr0, hb9⟩
  replace hT := hT.trans (hb9.mono hT.size)
  replace ka := ka.below hb9
  replace kb := kb.below hb9
  replace kR := kR.below hb9
  rw [show fite (p1 * q2) = 6 from if_neg (Int.not_lt.2 G0.out)]
  obtain ⟨x0, X0, y0, Y0, rfl⟩ := hr0.form
  obtain ⟨W1, hW, hbx, k0⟩ := box1 hr0
  have kbw := kb.below hbx
  have zkb0 := kbw.c0
  have zkb1 := kbw.c1
  have kaw := ka.below hbx
  have zka2 := kaw.c2
  have zka3 := kaw.c3
  rw [hW] at zkb0 zkb1 zka2 zka3
  go_wp2_with fail
  clear zkb0 zkb1 zka2 zka3
  clear kbw
  clear kaw
  rw [← hW]
  clear hW
  replace hT := hT.trans (hbx.mono hT.size)
  replace ka := ka.below hbx
  replace kb := kb.below hbx
  replace kR := kR.below hbx
  clear hr0
  (with_reducible refine (rmulb_any _ kb.fv.a ka.fv.b H3.out H2.out).mono ?_)
  rintro e v1 ⟨rr1, rfl, hr1, hb9⟩
  replace hT := hT.trans (hb9.mono hT.size)
  replace ka := ka.below hb9
  replace kb := kb.below hb9
  replace kR := kR.below hb9
  replace k0 := k0.below hb9
  obtain ⟨E1, hE1⟩ : ∃ E, fite (p2 * q1) = E := ⟨_, rfl⟩
  rw [hE1]
  clear hE1
  obtain ⟨x1, X1, y1, Y1, rfl⟩ := hr1.form
  obtain ⟨W2, hW, hbx, k1⟩ := box1 hr1
  have kaw := ka.below hbx
  have zka2 := kaw.c2
  have zka3 := kaw.c3
  have kbw := kb.below hbx
  have zkb2 := kbw.c2
  have zkb3 := kbw.c3
  rw [hW] at zka2 zka3 zkb2 zkb3
  go_wp2_with fail
  clear zka2 zka3 zkb2 zkb3
  clear kaw
  clear kbw
  rw [← hW]
  clear hW
  replace hT := hT.trans (hbx.mono hT.size)
  replace ka := ka.below hbx
  replace kb := kb.below hbx
  replace kR := kR.below hbx
  replace k0 := k0.below hbx
  clear hr1
  (with_reducible refine (rmulb_any _ ka.fv.b kb.fv.b H2.out H4.out).mono ?_)
  rintro e v2 ⟨rr2, rfl, hr2, hb9⟩
  replace hT := hT.trans (hb9.mono hT.size)
  replace ka := ka.below hb9
  replace kb := kb.below hb9
  replace kR := kR.below hb9
  replace k0 := k0.below hb9
  replace k1 := k1.below hb9
  obtain ⟨E2, hE2⟩ : ∃ E, fite (q1 * q2) = E := ⟨_, rfl⟩
  rw [hE2]
  clear hE2
  obtain ⟨x2, X2, y2, Y2, rfl⟩ := hr2.form
  obtain ⟨W3, hW, hbx, k2⟩ := box1 hr2
  have k0w := k0.below hbx
  have zk00 := k0w.c0
  have zk01 := k0w.c1
  have k1w := k1.below hbx
  have zk10 := k1w.c0
  have zk11 := k1w.c1
  rw [hW] at zk00 zk01 zk10 zk11
  go_wp2_with fail
  clear zk00 zk01 zk10 zk11
  clear k0w
  clear k1w
  rw [← hW]
  clear hW
  replace hT := hT.trans (hbx.mono hT.size)
  replace ka := ka.below hbx
  replace kb := kb.below hbx
  replace kR := kR.below hbx
  replace k0 := k0.below hbx
  replace k1 := k1.below hbx
  clear hr2
  (with_reducible refine (raddb_any _ k0.bv k1.bv (fitz_lt (p1 * q2)) (fitz_lt (p2 * q1))).mono ?_)
  rintro e v3 ⟨rr3, rfl, hr3, hb9⟩
  replace hT := hT.trans (hb9.mono hT.size)
  replace ka := ka.below hb9
  replace kb := kb.below hb9
  replace kR := kR.below hb9
  replace k0 := k0.below hb9
  replace k1 := k1.below hb9
  replace k2 := k2.below hb9
  obtain ⟨E3, hE3⟩ : ∃ E, fite (fitz (p1 * q2) + fitz (p2 * q1)) = E := ⟨_, rfl⟩
  rw [hE3]
  clear hE3
  obtain ⟨x3, X3, y3, Y3, rfl⟩ := hr3.form
  obtain ⟨W4, hW, hbx, k3⟩ := box1 hr3
  have k2w := k2.below hbx
  have zk30 := k3.c0
  have zk31 := k3.c1
  have zk20 := k2w.c0
  have zk21 := k2w.c1
  rw [hW] at zk30 zk31 zk20 zk21
  go_wp2_with fail
  clear zk30 zk31 zk20 zk21 k2w
  rw [← hW]
  clear hW
  replace hT := hT.trans (hbx.mono hT.size)
  replace ka := ka.below hbx
  replace kb := kb.below hbx
  replace kR := kR.below hbx
  replace k0 := k0.below hbx
  replace k1 := k1.below hbx
  replace k2 := k2.below hbx
  clear hr3
  have hlt := kR.blk.lt
  (with_reducible refine (rmade_bad _ _ _ _ _ _ _ _ _ _ _ k3.bv k2.bv).mono ?_)
  rintro e u3 ⟨rfl, hb9⟩
  replace hT := hT.trans (hb9.mono hT.size)
  replace kR := kR.below hb9
  clear ka kb k0 k1 k2 k3
  have gR : w.heap.size ≤ w.heap.size + 1 + 1 := by omega
  have r0 := kR.blk.cell 0
  have r1 := kR.blk.cell 1
  have r2 := kR.blk.cell 2
  have r3 := kR.blk.cell 3
  have q0' := kR.blk.frozen 0
  have q1' := kR.blk.frozen 1
  have q2' := kR.blk.frozen 2
  have q3' := kR.blk.frozen 3
  simp at r0 r1 r2 r3
  have hbs := kR.blk.set4 (.int .i64 0) (.slice none 0 0) (.int .i64 0) (.slice none 0 0)
  have x0 := hbs.cell 0
  have x1 := hbs.cell 1
  have x2 := hbs.cell 2
  have x3 := hbs.cell 3
  simp at x0 x1 x2 x3
  go_wp2_with fail
  refine bodyPost_ret (v := .tuple #[.agg #[.int .i64 0, .slice none 0 0, .int .i64 0, .slice none 0 0], .int .i64 6]) (by simp [results, Tryz.results35, go_sem, x0, x1, x2, x3]) rfl ?_
  exact ⟨rfl, below_st4 hT gR _ _ _ _⟩

set_option maxRecDepth 100000 in
set_option maxHeartbeats 8000000 in
theorem rfadd_1 (s1 s2 s3 s4 : Int) (A1 A2 A3 A4 : Option Addr) (n1 d1 n2 d2 n3 d3 n4 d4 : Nat) (p1 q1 p2 q2 : Int) (w : World) (ha : FV w w.heap.size s1 A1 n1 d1 s2 A2 n2 d2 p1 q1) (hb : FV w w.heap.size s3 A3 n3 d3 s4 A4 n4 d4 p2 q2) (h1 : ab p1 < pw 60) (h2 : ab q1 < pw 60) (h3 : ab p2 < pw 60) (h4 : ab q2 < pw 60) (r1 : FR p1 q1) (r2 : FR p2 q2) (f0 : ab (p1 * q2) < pw 60) (f1 : ¬ ab (p2 * q1) < pw 60) :
    Calls Tryz.prog 35 #[.agg #[.int .i64 s1, .slice A1 n1 d1, .int .i64 s2, .slice A2 n2 d2], .agg #[.int .i64 s3, .slice A3 n3 d3, .int .i64 s4, .slice A4 n4 d4]] w fun e w' => e = .returned (.tuple #[.agg #[.int .i64 0, .slice none 0 0, .int .i64 0, .slice none 0 0], .int .i64 6]) ∧ Below w.heap.size w w' := by
  have H1 := Lib.hid h1; clear h1
  have H2 := Lib.hid h2; clear h2
  have H3 := Lib.hid h3; clear h3
  have H4 := Lib.hid h4; clear h4
  have F1 := Lib.hid r1; clear r1
  have F2 := Lib.hid r2; clear r2
  have G0 := Lib.hid f0; clear f0
  have G1 := Lib.hid f1; clear f1
  go_enter Tryz.func35, Tryz.ntmps35
  go_wp2_with fail
  obtain ⟨W0, hW, hbx, ka, kb, kR⟩ := fboxes2 ha hb
  rw [← hW]
  clear hW ha hb
  have hT := hbx
  have zka0 := ka.c0
  have zka1 := ka.c1
  have zka2 := ka.c2
  have zka3 := ka.c3
  go_wp2_with fail
  clear zka0 zka1 zka2 zka3
  (with_reducible refine (rfright_yes _ ka.fv H1.out H2.out F1.out).mono ?_)
  rintro e u1 ⟨rfl, hb9⟩
  replace hT := hT.trans (hb9.mono hT.size)
  replace ka := ka.below hb9
  replace kb := kb.below hb9
  replace kR := kR.below hb9
  have zkb0 := kb.c0
  have zkb1 := kb.c1
  have zkb2 := kb.c2
  have zkb3 := kb.c3
  go_wp2_with fail
  clear zkb0 zkb1 zkb2 zkb3
  (with_reducible refine (rfright_yes _ kb.fv H3.out H4.out F2.out).mono ?_)
  rintro e u2 ⟨rfl, hb9⟩
  replace hT := hT.trans (hb9.mono hT.size)
  replace ka := ka.below hb9
  replace kb := kb.below hb9
  replace kR := kR.below hb9
  have zka0 := ka.c0
  have zka1 := ka.c1
  have zkb2 := kb.c2
  have zkb3 := kb.c3
  go_wp2_with fail
  clear zka0 zka1 zkb2 zkb3
  (with_reducible refine (rmulb_any _ ka.fv.a kb.fv.b H1.out H4.out).mono ?_)
  rintro e v0 ⟨rr0, rfl, hr0, hb9⟩
  replace hT := hT.trans (hb9.mono hT.size)
  replace ka := ka.below hb9
  replace kb := kb.below hb9
  replace kR := kR.below hb9
  rw [(fits G0.out).1]
  rw [(fits G0.out).2] at hr0
  obtain ⟨x0, X0, y0, Y0, rfl⟩ := hr0.form
  obtain ⟨W1, hW, hbx, k0⟩ := box1 hr0
  have kbw := kb.below hbx
  have zkb0 := kbw.c0
  have zkb1 := kbw.c1
  have kaw := ka.below hbx
  have zka2 := kaw.c2
  have zka3 := kaw.c3
  rw [hW] at zkb0 zkb1 zka2 zka3
  go_wp2_with fail
  clear zkb0 zkb1 zka2 zka3
  clear kbw
  clear kaw
  rw [← hW]
  clear hW
  replace hT := hT.trans (hbx.mono hT.size)
  replace ka := ka.below hbx
  replace kb := kb.below hbx
  replace kR := kR.below hbx
  clear hr0
  (with_reducible refine (rmulb_any _ kb.fv.a ka.fv.b H3.out H2.out).mono ?_)
  rintro e v1 ⟨rr1, rfl, hr1, hb9⟩
  replace hT := hT.trans (hb9.mono hT.size)
  replace ka := ka.below hb9
  replace kb := kb.below hb9
  replace kR := kR.below hb9
  replace k0 := k0.below hb9
  rw [show fite (p2 * q1) = 6 from if_neg (Int.not_lt.2 G1.out)]
  obtain ⟨x1, X1, y1, Y1, rfl⟩ := hr1.form
  obtain ⟨W2, hW, hbx, k1⟩ := box1 hr1
  have kaw := ka.below hbx
  have zka2 := kaw.c2
  have zka3 := kaw.c3
  have kbw := kb.below hbx
  have zkb2 := kbw.c2
  have zkb3 := kbw.c3
  rw [hW] at zka2 zka3 zkb2 zkb3
  go_wp2_with fail
  clear zka2 zka3 zkb2 zkb3
  clear kaw
  clear kbw
  rw [← hW]
  clear hW
  replace hT := hT.trans (hbx.mono hT.size)
  replace ka := ka.below hbx
  replace kb := kb.below hbx
  replace kR := kR.below hbx
  replace k0 := k0.below hbx
  clear hr1
  (with_reducible refine (rmulb_any _ ka.fv.b kb.fv.b H2.out H4.out).mono ?_)
  rintro e v2 ⟨rr2, rfl, hr2, hb9⟩
  replace hT := hT.trans (hb9.mono hT.size)
  replace ka := ka.below hb9
  replace kb := kb.below hb9
  replace kR := kR.below hb9
  replace k0 := k0.below hb9
  replace k1 := k1.below hb9
  obtain ⟨E2, hE2⟩ : ∃ E, fite (q1 * q2) = E := ⟨_, rfl⟩
  rw [hE2]
  clear hE2
  obtain ⟨x2, X2, y2, Y2, rfl⟩ := hr2.form
  obtain ⟨W3, hW, hbx, k2⟩ := box1 hr2
  have k0w := k0.below hbx
  have zk00 := k0w.c0
  have zk01 := k0w.c1
  have k1w := k1.below hbx
  have zk10 := k1w.c0
  have zk11 := k1w.c1
  rw [hW] at zk00 zk01 zk10 zk11
  go_wp2_with fail
  clear zk00 zk01 zk10 zk11
  clear k0w
  clear k1w
  rw [← hW]
  clear hW
  replace hT := hT.trans (hbx.mono hT.size)
  replace ka := ka.below hbx
  replace kb := kb.below hbx
  replace kR := kR.below hbx
  replace k0 := k0.below hbx
  replace k1 := k1.below hbx
  clear hr2
  (with_reducible refine (raddb_any _ k0.bv k1.bv G0.out (fitz_lt (p2 * q1))).mono ?_)
  rintro e v3 ⟨rr3, rfl, hr3, hb9⟩
  replace hT := hT.trans (hb9.mono hT.size)
  replace ka := ka.below hb9
  replace kb := kb.below hb9
  replace kR := kR.below hb9
  replace k0 := k0.below hb9
  replace k1 := k1.below hb9
  replace k2 := k2.below hb9
  obtain ⟨E3, hE3⟩ : ∃ E, fite ((p1 * q2) + fitz (p2 * q1)) = E := ⟨_, rfl⟩
  rw [hE3]
  clear hE3
  obtain ⟨x3, X3, y3, Y3, rfl⟩ := hr3.form
  obtain ⟨W4, hW, hbx, k3⟩ := box1 hr3
  have k2w := k2.below hbx
  have zk30 := k3.c0
  have zk31 := k3.c1
  have zk20 := k2w.c0
  have zk21 := k2w.c1
  rw [hW] at zk30 zk31 zk20 zk21
  go_wp2_with fail
  clear zk30 zk31 zk20 zk21 k2w
  rw [← hW]
  clear hW
  replace hT := hT.trans (hbx.mono hT.size)
  replace ka := ka.below hbx
  replace kb := kb.below hbx
  replace kR := kR.below hbx
  replace k0 := k0.below hbx
  replace k1 := k1.below hbx
  replace k2 := k2.below hbx
  clear hr3
  have hlt := kR.blk.lt
  (with_reducible refine (rmade_bad _ _ _ _ _ _ _ _ _ _ _ k3.bv k2.bv).mono ?_)
  rintro e u3 ⟨rfl, hb9⟩
  replace hT := hT.trans (hb9.mono hT.size)
  replace kR := kR.below hb9
  clear ka kb k0 k1 k2 k3
  have gR : w.heap.size ≤ w.heap.size + 1 + 1 := by omega
  have r0 := kR.blk.cell 0
  have r1 := kR.blk.cell 1
  have r2 := kR.blk.cell 2
  have r3 := kR.blk.cell 3
  have q0' := kR.blk.frozen 0
  have q1' := kR.blk.frozen 1
  have q2' := kR.blk.frozen 2
  have q3' := kR.blk.frozen 3
  simp at r0 r1 r2 r3
  have hbs := kR.blk.set4 (.int .i64 0) (.slice none 0 0) (.int .i64 0) (.slice none 0 0)
  have x0 := hbs.cell 0
  have x1 := hbs.cell 1
  have x2 := hbs.cell 2
  have x3 := hbs.cell 3
  simp at x0 x1 x2 x3
  go_wp2_with fail
  refine bodyPost_ret (v := .tuple #[.agg #[.int .i64 0, .slice none 0 0, .int .i64 0, .slice none 0 0], .int .i64 6]) (by simp [results, Tryz.results35, go_sem, x0, x1, x2, x3]) rfl ?_
  exact ⟨rfl, below_st4 hT gR _ _ _ _⟩

set_option maxRecDepth 100000 in
set_option maxHeartbeats 8000000 in
theorem rfadd_2 (s1 s2 s3 s4 : Int) (A1 A2 A3 A4 : Option Addr) (n1 d1 n2 d2 n3 d3 n4 d4 : Nat) (p1 q1 p2 q2 : Int) (w : World) (ha : FV w w.heap.size s1 A1 n1 d1 s2 A2 n2 d2 p1 q1) (hb : FV w w.heap.size s3 A3 n3 d3 s4 A4 n4 d4 p2 q2) (h1 : ab p1 < pw 60) (h2 : ab q1 < pw 60) (h3 : ab p2 < pw 60) (h4 : ab q2 < pw 60) (r1 : FR p1 q1) (r2 : FR p2 q2) (f0 : ab (p1 * q2) < pw 60) (f1 : ab (p2 * q1) < pw 60) (f2 : ¬ ab (q1 * q2) < pw 60) :
    Calls Tryz.prog 35 #[.agg #[.int .i64 s1, .slice A1 n1 d1, .int .i64 s2, .slice A2 n2 d2], .agg #[.int .i64 s3, .slice A3 n3 d3, .int .i64 s4, .slice A4 n4 d4]] w fun e w' => e = .returned (.tuple #[.agg #[.int .i64 0, .slice none 0 0, .int .i64 0, .slice none 0 0], .int .i64 6]) ∧ Below w.heap.size w w' := by
  have H1 := Lib.hid h1; clear h1
  have H2 := Lib.hid h2; clear h2
  have H3 := Lib.hid h3; clear h3
  have H4 := Lib.hid h4; clear h4
  have F1 := Lib.hid r1; clear r1
  have F2 := Lib.hid r2; clear r2
  have G0 := Lib.hid f0; clear f0
  have G1 := Lib.hid f1; clear f1
  have G2 := Lib.hid f2; clear f2
  go_enter Tryz.func35, Tryz.ntmps35
  go_wp2_with fail
  obtain ⟨W0, hW, hbx, ka, kb, kR⟩ := fboxes2 ha hb
  rw [← hW]
  clear hW ha hb
  have hT := hbx
  have zka0 := ka.c0
  have zka1 := ka.c1
  have zka2 := ka.c2
  have zka3 := ka.c3
  go_wp2_with fail
  clear zka0 zka1 zka2 zka3
  (with_reducible refine (rfright_yes _ ka.fv H1.out H2.out F1.out).mono ?_)
  rintro e u1 ⟨rfl, hb9⟩
  replace hT := hT.trans (hb9.mono hT.size)
  replace ka := ka.below hb9
  replace kb := kb.below hb9
  replace kR := kR.below hb9
  have zkb0 := kb.c0
  have zkb1 := kb.c1
  have zkb2 := kb.c2
  have zkb3 := kb.c3
  go_wp2_with fail
  clear zkb0 zkb1 zkb2 zkb3
  (with_reducible refine (rfright_yes _ kb.fv H3.out H4.out F2.out).mono ?_)
  rintro e u2 ⟨rfl, hb9⟩
  replace hT := hT.trans (hb9.mono hT.size)
  replace ka := ka.below hb9
  replace kb := kb.below hb9
  replace kR := kR.below hb9
  have zka0 := ka.c0
  have zka1 := ka.c1
  have zkb2 := kb.c2
  have zkb3 := kb.c3
  go_wp2_with fail
  clear zka0 zka1 zkb2 zkb3
  (with_reducible refine (rmulb_any _ ka.fv.a kb.fv.b H1.out H4.out).mono ?_)
  rintro e v0 ⟨rr0, rfl, hr0, hb9⟩
  replace hT := hT.trans (hb9.mono hT.size)
  replace ka := ka.below hb9
  replace kb := kb.below hb9
  replace kR := kR.below hb9
  rw [(fits G0.out).1]
  rw [(fits G0.out).2] at hr0
  obtain ⟨x0, X0, y0, Y0, rfl⟩ := hr0.form
  obtain ⟨W1, hW, hbx, k0⟩ := box1 hr0
  have kbw := kb.below hbx
  have zkb0 := kbw.c0
  have zkb1 := kbw.c1
  have kaw := ka.below hbx
  have zka2 := kaw.c2
  have zka3 := kaw.c3
  rw [hW] at zkb0 zkb1 zka2 zka3
  go_wp2_with fail
  clear zkb0 zkb1 zka2 zka3
  clear kbw
  clear kaw
  rw [← hW]
  clear hW
  replace hT := hT.trans (hbx.mono hT.size)
  replace ka := ka.below hbx
  replace kb := kb.below hbx
  replace kR := kR.below hbx
  clear hr0
  (with_reducible refine (rmulb_any _ kb.fv.a ka.fv.b H3.out H2.out).mono ?_)
  rintro e v1 ⟨rr1, rfl, hr1, hb9⟩
  replace hT := hT.trans (hb9.mono hT.size)
  replace ka := ka.below hb9
  replace kb := kb.below hb9
  replace kR := kR.below hb9
  replace k0 := k0.below hb9
  rw [(fits G1.out).1]
  rw [(fits G1.out).2] at hr1
  obtain ⟨x1, X1, y1, Y1, rfl⟩ := hr1.form
  obtain ⟨W2, hW, hbx, k1⟩ := box1 hr1
  have kaw := ka.below hbx
  have zka2 := kaw.c2
  have zka3 := kaw.c3
  have kbw := kb.below hbx
  have zkb2 := kbw.c2
  have zkb3 := kbw.c3
  rw [hW] at zka2 zka3 zkb2 zkb3
  go_wp2_with fail
  clear zka2 zka3 zkb2 zkb3
  clear kaw
  clear kbw
  rw [← hW]
  clear hW
  replace hT := hT.trans (hbx.mono hT.size)
  replace ka := ka.below hbx
  replace kb := kb.below hbx
  replace kR := kR.below hbx
  replace k0 := k0.below hbx
  clear hr1
  (with_reducible refine (rmulb_any _ ka.fv.b kb.fv.b H2.out H4.out).mono ?_)
  rintro e v2 ⟨rr2, rfl, hr2, hb9⟩
  replace hT := hT.trans (hb9.mono hT.size)
  replace ka := ka.below hb9
  replace kb := kb.below hb9
  replace kR := kR.below hb9
  replace k0 := k0.below hb9
  replace k1 := k1.below hb9
  rw [show fite (q1 * q2) = 6 from if_neg (Int.not_lt.2 G2.out)]
  obtain ⟨x2, X2, y2, Y2, rfl⟩ := hr2.form
  obtain ⟨W3, hW, hbx, k2⟩ := box1 hr2
  have k0w := k0.below hbx
  have zk00 := k0w.c0
  have zk01 := k0w.c1
  have k1w := k1.below hbx
  have zk10 := k1w.c0
  have zk11 := k1w.c1
  rw [hW] at zk00 zk01 zk10 zk11
  go_wp2_with fail
  clear zk00 zk01 zk10 zk11
  clear k0w
  clear k1w
  rw [← hW]
  clear hW
  replace hT := hT.trans (hbx.mono hT.size)
  replace ka := ka.below hbx
  replace kb := kb.below hbx
  replace kR := kR.below hbx
  replace k0 := k0.below hbx
  replace k1 := k1.below hbx
  clear hr2
  (with_reducible refine (raddb_any _ k0.bv k1.bv G0.out G1.out).mono ?_)
  rintro e v3 ⟨rr3, rfl, hr3, hb9⟩
  replace hT := hT.trans (hb9.mono hT.size)
  replace ka := ka.below hb9
  replace kb := kb.below hb9
  replace kR := kR.below hb9
  replace k0 := k0.below hb9
  replace k1 := k1.below hb9
  replace k2 := k2.below hb9
  obtain ⟨E3, hE3⟩ : ∃ E, fite ((p1 * q2) + (p2 * q1)) = E := ⟨_, rfl⟩
  rw [hE3]
  clear hE3
  obtain ⟨x3, X3, y3, Y3, rfl⟩ := hr3.form
  obtain ⟨W4, hW, hbx, k3⟩ := box1 hr3
  have k2w := k2.below hbx
  have zk30 := k3.c0
  have zk31 := k3.c1
  have zk20 := k2w.c0
  have zk21 := k2w.c1
  rw [hW] at zk30 zk31 zk20 zk21
  go_wp2_with fail
  clear zk30 zk31 zk20 zk21 k2w
  rw [← hW]
  clear hW
  replace hT := hT.trans (hbx.mono hT.size)
  replace ka := ka.below hbx
  replace kb := kb.below hbx
  replace kR := kR.below hbx
  replace k0 := k0.below hbx
  replace k1 := k1.below hbx
  replace k2 := k2.below hbx
  clear hr3
  have hlt := kR.blk.lt
  (with_reducible refine (rmade_bad _ _ _ _ _ _ _ _ _ _ _ k3.bv k2.bv).mono ?_)
  rintro e u3 ⟨rfl, hb9⟩
  replace hT := hT.trans (hb9.mono hT.size)
  replace kR := kR.below hb9
  clear ka kb k0 k1 k2 k3
  have gR : w.heap.size ≤ w.heap.size + 1 + 1 := by omega
  have r0 := kR.blk.cell 0
  have r1 := kR.blk.cell 1
  have r2 := kR.blk.cell 2
  have r3 := kR.blk.cell 3
  have q0' := kR.blk.frozen 0
  have q1' := kR.blk.frozen 1
  have q2' := kR.blk.frozen 2
  have q3' := kR.blk.frozen 3
  simp at r0 r1 r2 r3
  have hbs := kR.blk.set4 (.int .i64 0) (.slice none 0 0) (.int .i64 0) (.slice none 0 0)
  have x0 := hbs.cell 0
  have x1 := hbs.cell 1
  have x2 := hbs.cell 2
  have x3 := hbs.cell 3
  simp at x0 x1 x2 x3
  go_wp2_with fail
  refine bodyPost_ret (v := .tuple #[.agg #[.int .i64 0, .slice none 0 0, .int .i64 0, .slice none 0 0], .int .i64 6]) (by simp [results, Tryz.results35, go_sem, x0, x1, x2, x3]) rfl ?_
  exact ⟨rfl, below_st4 hT gR _ _ _ _⟩

set_option maxRecDepth 100000 in
set_option maxHeartbeats 8000000 in
theorem rfadd_3 (s1 s2 s3 s4 : Int) (A1 A2 A3 A4 : Option Addr) (n1 d1 n2 d2 n3 d3 n4 d4 : Nat) (p1 q1 p2 q2 : Int) (w : World) (ha : FV w w.heap.size s1 A1 n1 d1 s2 A2 n2 d2 p1 q1) (hb : FV w w.heap.size s3 A3 n3 d3 s4 A4 n4 d4 p2 q2) (h1 : ab p1 < pw 60) (h2 : ab q1 < pw 60) (h3 : ab p2 < pw 60) (h4 : ab q2 < pw 60) (r1 : FR p1 q1) (r2 : FR p2 q2) (f0 : ab (p1 * q2) < pw 60) (f1 : ab (p2 * q1) < pw 60) (f2 : ab (q1 * q2) < pw 60) (f3 : ¬ ab (p1 * q2 + p2 * q1) < pw 60) :
    Calls Tryz.prog 35 #[.agg #[.int .i64 s1, .slice A1 n1 d1, .int .i64 s2, .slice A2 n2 d2], .agg #[.int .i64 s3, .slice A3 n3 d3, .int .i64 s4, .slice A4 n4 d4]] w fun e w' => e = .returned (.tuple #[.agg #[.int .i64 0, .slice none 0 0, .int .i64 0, .slice none 0 0], .int .i64 6]) ∧ Below w.heap.size w w' := by
  have H1 := Lib.hid h1; clear h1
  have H2 := Lib.hid h2; clear h2
  have H3 := Lib.hid h3; clear h3
  have H4 := Lib.hid h4; clear h4
  have F1 := Lib.hid r1; clear r1
  have F2 := Lib.hid r2; clear r2
  have G0 := Lib.hid f0; clear f0
  have G1 := Lib.hid f1; clear f1
  have G2 := Lib.hid f2; clear f2
  have G3 := Lib.hid f3; clear f3
  go_enter Tryz.func35, Tryz.ntmps35
  go_wp2_with fail
  obtain ⟨W0, hW, hbx, ka, kb, kR⟩ := fboxes2 ha hb
  rw [← hW]
  clear hW ha hb
  have hT := hbx
  have zka0 := ka.c0
  have zka1 := ka.c1
  have zka2 := ka.c2
  have zka3 := ka.c3
  go_wp2_with fail
  clear zka0 zka1 zka2 zka3
  (with_reducible refine (rfright_yes _ ka.fv H1.out H2.out F1.out).mono ?_)
  rintro e u1 ⟨rfl, hb9⟩
  replace hT := hT.trans (hb9.mono hT.size)
  replace ka := ka.below hb9
  replace kb := kb.below hb9
  replace kR := kR.below hb9
  have zkb0 := kb.c0
  have zkb1 := kb.c1
  have zkb2 := kb.c2
  have zkb3 := kb.c3
  go_wp2_with fail
  clear zkb0 zkb1 zkb2 zkb3
  (with_reducible refine (rfright_yes _ kb.fv H3.out H4.out F2.out).mono ?_)
  rintro e u2 ⟨rfl, hb9⟩
  replace hT := hT.trans (hb9.mono hT.size)
  replace ka := ka.below hb9
  replace kb := kb.below hb9
  replace kR := kR.below hb9
  have zka0 := ka.c0
  have zka1 := ka.c1
  have zkb2 := kb.c2
  have zkb3 := kb.c3
  go_wp2_with fail
  clear zka0 zka1 zkb2 zkb3
  (with_reducible refine (rmulb_any _ ka.fv.a kb.fv.b H1.out H4.out).mono ?_)
  rintro e v0 ⟨rr0, rfl, hr0, hb9⟩
  replace hT := hT.trans (hb9.mono hT.size)
  replace ka := ka.below hb9
  replace kb := kb.below hb9
  replace kR := kR.below hb9
  rw [(fits G0.out).1]
  rw [(fits G0.out).2] at hr0
  obtain ⟨x0, X0, y0, Y0, rfl⟩ := hr0.form
  obtain ⟨W1, hW, hbx, k0⟩ := box1 hr0
  have kbw := kb.below hbx
  have zkb0 := kbw.c0
  have zkb1 := kbw.c1
  have kaw := ka.below hbx
  have zka2 := kaw.c2
  have zka3 := kaw.c3
  rw [hW] at zkb0 zkb1 zka2 zka3
  go_wp2_with fail
  clear zkb0 zkb1 zka2 zka3
  clear kbw
  clear kaw
  rw [← hW]
  clear hW
  replace hT := hT.trans (hbx.mono hT.size)
  replace ka := ka.below hbx
  replace kb := kb.below hbx
  replace kR := kR.below hbx
  clear hr0
  (with_reducible refine (rmulb_any _ kb.fv.a ka.fv.b H3.out H2.out).mono ?_)
  rintro e v1 ⟨rr1, rfl, hr1, hb9⟩
  replace hT := hT.trans (hb9.mono hT.size)
  replace ka := ka.below hb9
  replace kb := kb.below hb9
  replace kR := kR.below hb9
  replace k0 := k0.below hb9
  rw [(fits G1.out).1]
  rw [(fits G1.out).2] at hr1
  obtain ⟨x1, X1, y1, Y1, rfl⟩ := hr1.form
  obtain ⟨W2, hW, hbx, k1⟩ := box1 hr1
  have kaw := ka.below hbx
  have zka2 := kaw.c2
  have zka3 := kaw.c3
  have kbw := kb.below hbx
  have zkb2 := kbw.c2
  have zkb3 := kbw.c3
  rw [hW] at zka2 zka3 zkb2 zkb3
  go_wp2_with fail
  clear zka2 zka3 zkb2 zkb3
  clear kaw
  clear kbw
  rw [← hW]
  clear hW
  replace hT := hT.trans (hbx.mono hT.size)
  replace ka := ka.below hbx
  replace kb := kb.below hbx
  replace kR := kR.below hbx
  replace k0 := k0.below hbx
  clear hr1
  (with_reducible refine (rmulb_any _ ka.fv.b kb.fv.b H2.out H4.out).mono ?_)
  rintro e v2 ⟨rr2, rfl, hr2, hb9⟩
  replace hT := hT.trans (hb9.mono hT.size)
  replace ka := ka.below hb9
  replace kb := kb.below hb9
  replace kR := kR.below hb9
  replace k0 := k0.below hb9
  replace k1 := k1.below hb9
  rw [(fits G2.out).1]
  rw [(fits G2.out).2] at hr2
  obtain ⟨x2, X2, y2, Y2, rfl⟩ := hr2.form
  obtain ⟨W3, hW, hbx, k2⟩ := box1 hr2
  have k0w := k0.below hbx
  have zk00 := k0w.c0
  have zk01 := k0w.c1
  have k1w := k1.below hbx
  have zk10 := k1w.c0
  have zk11 := k1w.c1
  rw [hW] at zk00 zk01 zk10 zk11
  go_wp2_with fail
  clear zk00 zk01 zk10 zk11
  clear k0w
  clear k1w
  rw [← hW]
  clear hW
  replace hT := hT.trans (hbx.mono hT.size)
  replace ka := ka.below hbx
  replace kb := kb.below hbx
  replace kR := kR.below hbx
  replace k0 := k0.below hbx
  replace k1 := k1.below hbx
  clear hr2
  (with_reducible refine (raddb_any _ k0.bv k1.bv G0.out G1.out).mono ?_)
  rintro e v3 ⟨rr3, rfl, hr3, hb9⟩
  replace hT := hT.trans (hb9.mono hT.size)
  replace ka := ka.below hb9
  replace kb := kb.below hb9
  replace kR := kR.below hb9
  replace k0 := k0.below hb9
  replace k1 := k1.below hb9
  replace k2 := k2.below hb9
  rw [show fite (p1 * q2 + p2 * q1) = 6 from if_neg (Int.not_lt.2 G3.out)]
  obtain ⟨x3, X3, y3, Y3, rfl⟩ := hr3.form
  obtain ⟨W4, hW, hbx, k3⟩ := box1 hr3
  have k2w := k2.below hbx
  have zk30 := k3.c0
  have zk31 := k3.c1
  have zk20 := k2w.c0
  have zk21 := k2w.c1
  rw [hW] at zk30 zk31 zk20 zk21
  go_wp2_with fail
  clear zk30 zk31 zk20 zk21 k2w
  rw [← hW]
  clear hW
  replace hT := hT.trans (hbx.mono hT.size)
  replace ka := ka.below hbx
  replace kb := kb.below hbx
  replace kR := kR.below hbx
  replace k0 := k0.below hbx
  replace k1 := k1.below hbx
  replace k2 := k2.below hbx
  clear hr3
  have hlt := kR.blk.lt
  (with_reducible refine (rmade_bad _ _ _ _ _ _ _ _ _ _ _ k3.bv k2.bv).mono ?_)
  rintro e u3 ⟨rfl, hb9⟩
  replace hT := hT.trans (hb9.mono hT.size)
  replace kR := kR.below hb9
  clear ka kb k0 k1 k2 k3
  have gR : w.heap.size ≤ w.heap.size + 1 + 1 := by omega
  have r0 := kR.blk.cell 0
  have r1 := kR.blk.cell 1
  have r2 := kR.blk.cell 2
  have r3 := kR.blk.cell 3
  have q0' := kR.blk.frozen 0
  have q1' := kR.blk.frozen 1
  have q2' := kR.blk.frozen 2
  have q3' := kR.blk.frozen 3
  simp at r0 r1 r2 r3
  have hbs := kR.blk.set4 (.int .i64 0) (.slice none 0 0) (.int .i64 0) (.slice none 0 0)
  have x0 := hbs.cell 0
  have x1 := hbs.cell 1
  have x2 := hbs.cell 2
  have x3 := hbs.cell 3
  simp at x0 x1 x2 x3
  go_wp2_with fail
  refine bodyPost_ret (v := .tuple #[.agg #[.int .i64 0, .slice none 0 0, .int .i64 0, .slice none 0 0], .int .i64 6]) (by simp [results, Tryz.results35, go_sem, x0, x1, x2, x3]) rfl ?_
  exact ⟨rfl, below_st4 hT gR _ _ _ _⟩

set_option maxRecDepth 100000 in
set_option maxHeartbeats 8000000 in
theorem rfadd_fit (s1 s2 s3 s4 : Int) (A1 A2 A3 A4 : Option Addr) (n1 d1 n2 d2 n3 d3 n4 d4 : Nat) (p1 q1 p2 q2 : Int) (w : World) (ha : FV w w.heap.size s1 A1 n1 d1 s2 A2 n2 d2 p1 q1) (hb : FV w w.heap.size s3 A3 n3 d3 s4 A4 n4 d4 p2 q2) (h1 : ab p1 < pw 60) (h2 : ab q1 < pw 60) (h3 : ab p2 < pw 60) (h4 : ab q2 < pw 60) (r1 : FR p1 q1) (r2 : FR p2 q2) (f0 : ab (p1 * q2) < pw 60) (f1 : ab (p2 * q1) < pw 60) (f2 : ab (q1 * q2) < pw 60) (f3 : ab (p1 * q2 + p2 * q1) < pw 60) :
    Calls Tryz.prog 35 #[.agg #[.int .i64 s1, .slice A1 n1 d1, .int .i64 s2, .slice A2 n2 d2], .agg #[.int .i64 s3, .slice A3 n3 d3, .int .i64 s4, .slice A4 n4 d4]] w (NewP (p1 * q2 + p2 * q1) (q1 * q2) w) := by
  have H1 := Lib.hid h1; clear h1
  have H2 := Lib.hid h2; clear h2
  have H3 := Lib.hid h3; clear h3
  have H4 := Lib.hid h4; clear h4
  have F1 := Lib.hid r1; clear r1
  have F2 := Lib.hid r2; clear r2
  have G0 := Lib.hid f0; clear f0
  have G1 := Lib.hid f1; clear f1
  have G2 := Lib.hid f2; clear f2
  have G3 := Lib.hid f3; clear f3
  unfold NewP
  obtain ⟨E, hE⟩ : ∃ E, newE (q1 * q2) = E := ⟨_, rfl⟩
  obtain ⟨P, hP⟩ : ∃ E, newN (p1 * q2 + p2 * q1) (q1 * q2) = E := ⟨_, rfl⟩
  obtain ⟨Q, hQ⟩ : ∃ E, newD (p1 * q2 + p2 * q1) (q1 * q2) = E := ⟨_, rfl⟩
  rw [hE, hP, hQ]
  have HE := Lib.hid hE; clear hE
  have HP := Lib.hid hP; clear hP
  have HQ := Lib.hid hQ; clear hQ
  go_enter Tryz.func35, Tryz.ntmps35
  go_wp2_with fail
  obtain ⟨W0, hW, hbx, ka, kb, kR⟩ := fboxes2 ha hb
  rw [← hW]
  clear hW ha hb
  have hT := hbx
  have zka0 := ka.c0
  have zka1 := ka.c1
  have zka2 := ka.c2
  have zka3 := ka.c3
  go_wp2_with fail
  clear zka0 zka1 zka2 zka3
  (with_reducible refine (rfright_yes _ ka.fv H1.out H2.out F1.out).mono ?_)
  rintro e u1 ⟨rfl, hb9⟩
  replace hT := hT.trans (hb9.mono hT.size)
  replace ka := ka.below hb9
  replace kb := kb.below hb9
  replace kR := kR.below hb9
  have zkb0 := kb.c0
  have zkb1 := kb.c1
  have zkb2 := kb.c2
  have zkb3 := kb.c3
  go_wp2_with fail
  clear zkb0 zkb1 zkb2 zkb3
  (with_reducible refine (rfright_yes _ kb.fv H3.out H4.out F2.out).mono ?_)
  rintro e u2 ⟨rfl, hb9⟩
  replace hT := hT.trans (hb9.mono hT.size)
  replace ka := ka.below hb9
  replace kb := kb.below hb9
  replace kR := kR.below hb9
  have zka0 := ka.c0
  have zka1 := ka.c1
  have zkb2 := kb.c2
  have zkb3 := kb.c3
  go_wp2_with fail
  clear zka0 zka1 zkb2 zkb3
  (with_reducible refine (rmulb_any _ ka.fv.a kb.fv.b H1.out H4.out).mono ?_)
  rintro e v0 ⟨rr0, rfl, hr0, hb9⟩
  replace hT := hT.trans (hb9.mono hT.size)
  replace ka := ka.below hb9
  replace kb := kb.below hb9
  replace kR := kR.below hb9
  rw [(fits G0.out).1]
  rw [(fits G0.out).2] at hr0
  obtain ⟨x0, X0, y0, Y0, rfl⟩ := hr0.form
  obtain ⟨W1, hW, hbx, k0⟩ := box1 hr0
  have kbw := kb.below hbx
  have zkb0 := kbw.c0
  have zkb1 := kbw.c1
  have kaw := ka.below hbx
  have zka2 := kaw.c2
  have zka3 := kaw.c3
  rw [hW] at zkb0 zkb1 zka2 zka3
  go_wp2_with fail
  clear zkb0 zkb1 zka2 zka3
  clear kbw
  clear kaw
  rw [← hW]
  clear hW
  replace hT := hT.trans (hbx.mono hT.size)
  replace ka := ka.below hbx
  replace kb := kb.below hbx
  replace kR := kR.below hbx
  clear hr0
  (with_reducible refine (rmulb_any _ kb.fv.a ka.fv.b H3.out H2.out).mono ?_)
  rintro e v1 ⟨rr1, rfl, hr1, hb9⟩
  replace hT := hT.trans (hb9.mono hT.size)
  replace ka := ka.below hb9
  replace kb := kb.below hb9
  replace kR := kR.below hb9
  replace k0 := k0.below hb9
  rw [(fits G1.out).1]
  rw [(fits G1.out).2] at hr1
  obtain ⟨x1, X1, y1, Y1, rfl⟩ := hr1.form
  obtain ⟨W2, hW, hbx, k1⟩ := box1 hr1
  have kaw := ka.below hbx
  have zka2 := kaw.c2
  have zka3 := kaw.c3
  have kbw := kb.below hbx
  have zkb2 := kbw.c2
  have zkb3 := kbw.c3
  rw [hW] at zka2 zka3 zkb2 zkb3
  go_wp2_with fail
  clear zka2 zka3 zkb2 zkb3
  clear kaw
  clear kbw
  rw [← hW]
  clear hW
  replace hT := hT.trans (hbx.mono hT.size)
  replace ka := ka.below hbx
  replace kb := kb.below hbx
  replace kR := kR.below hbx
  replace k0 := k0.below hbx
  clear hr1
  (with_reducible refine (rmulb_any _ ka.fv.b kb.fv.b H2.out H4.out).mono ?_)
  rintro e v2 ⟨rr2, rfl, hr2, hb9⟩
  replace hT := hT.trans (hb9.mono hT.size)
  replace ka := ka.below hb9
  replace kb := kb.below hb9
  replace kR := kR.below hb9
  replace k0 := k0.below hb9
  replace k1 := k1.below hb9
  rw [(fits G2.out).1]
  rw [(fits G2.out).2] at hr2
  obtain ⟨x2, X2, y2, Y2, rfl⟩ := hr2.form
  obtain ⟨W3, hW, hbx, k2⟩ := box1 hr2
  have k0w := k0.below hbx
  have zk00 := k0w.c0
  have zk01 := k0w.c1
  have k1w := k1.below hbx
  have zk10 := k1w.c0
  have zk11 := k1w.c1
  rw [hW] at zk00 zk01 zk10 zk11
  go_wp2_with fail
  clear zk00 zk01 zk10 zk11
  clear k0w
  clear k1w
  rw [← hW]
  clear hW
  replace hT := hT.trans (hbx.mono hT.size)
  replace ka := ka.below hbx
  replace kb := kb.below hbx
  replace kR := kR.below hbx
  replace k0 := k0.below hbx
  replace k1 := k1.below hbx
  clear hr2
  (with_reducible refine (raddb_any _ k0.bv k1.bv G0.out G1.out).mono ?_)
  rintro e v3 ⟨rr3, rfl, hr3, hb9⟩
  replace hT := hT.trans (hb9.mono hT.size)
  replace ka := ka.below hb9
  replace kb := kb.below hb9
  replace kR := kR.below hb9
  replace k0 := k0.below hb9
  replace k1 := k1.below hb9
  replace k2 := k2.below hb9
  rw [(fits G3.out).1]
  rw [(fits G3.out).2] at hr3
  obtain ⟨x3, X3, y3, Y3, rfl⟩ := hr3.form
  obtain ⟨W4, hW, hbx, k3⟩ := box1 hr3
  have k2w := k2.below hbx
  have zk30 := k3.c0
  have zk31 := k3.c1
  have zk20 := k2w.c0
  have zk21 := k2w.c1
  rw [hW] at zk30 zk31 zk20 zk21
  go_wp2_with fail
  clear zk30 zk31 zk20 zk21 k2w
  rw [← hW]
  clear hW
  replace hT := hT.trans (hbx.mono hT.size)
  replace ka := ka.below hbx
  replace kb := kb.below hbx
  replace kR := kR.below hbx
  replace k0 := k0.below hbx
  replace k1 := k1.below hbx
  replace k2 := k2.below hbx
  clear hr3
  have hlt := kR.blk.lt
  (with_reducible refine (rmade_ok _ _ _ _ _ _ _ _ _ _ _ k3.bv k2.bv G3.out G2.out).mono ?_)
  rintro e u3 ⟨rr, rfl, hrr, hb9⟩
  replace hT := hT.trans (hb9.mono hT.size)
  replace kR := kR.below hb9
  clear ka kb k0 k1 k2 k3
  rw [HP.out, HQ.out] at hrr
  rw [HE.out]
  obtain ⟨t1, C1, m1, e1, t2, C2, m2, e2, rfl, g1, g2⟩ := hrr
  have gR : w.heap.size ≤ w.heap.size + 1 + 1 := by omega
  have r0 := kR.blk.cell 0
  have r1 := kR.blk.cell 1
  have r2 := kR.blk.cell 2
  have r3 := kR.blk.cell 3
  have q0' := kR.blk.frozen 0
  have q1' := kR.blk.frozen 1
  have q2' := kR.blk.frozen 2
  have q3' := kR.blk.frozen 3
  simp at r0 r1 r2 r3
  have hbs := kR.blk.set4 (.int .i64 t1) (.slice C1 m1 e1) (.int .i64 t2) (.slice C2 m2 e2)
  have x0 := hbs.cell 0
  have x1 := hbs.cell 1
  have x2 := hbs.cell 2
  have x3 := hbs.cell 3
  simp at x0 x1 x2 x3
  go_wp2_with fail
  refine bodyPost_ret (v := .tuple #[.agg #[.int .i64 t1, .slice C1 m1 e1, .int .i64 t2, .slice C2 m2 e2], .int .i64 E]) (by simp [results, Tryz.results35, go_sem, x0, x1, x2, x3]) rfl ?_
  exact ⟨_, rfl, FO.mk2 ((g1.far4 hlt _ _ _ _).mono (by omega)) ((g2.far4 hlt _ _ _ _).mono (by omega)), below_st4 hT gR _ _ _ _⟩

set_option maxRecDepth 100000 in
set_option maxHeartbeats 8000000 in
theorem rfsub_0 (s1 s2 s3 s4 : Int) (A1 A2 A3 A4 : Option Addr) (n1 d1 n2 d2 n3 d3 n4 d4 : Nat) (p1 q1 p2 q2 : Int) (w : World) (ha : FV w w.heap.size s1 A1 n1 d1 s2 A2 n2 d2 p1 q1) (hb : FV w w.heap.size s3 A3 n3 d3 s4 A4 n4 d4 p2 q2) (h1 : ab p1 < pw 60) (h2 : ab q1 < pw 60) (h3 : ab p2 < pw 60) (h4 : ab q2 < pw 60) (r1 : FR p1 q1) (r2 : FR p2 q2)  (f0 : ¬ ab (p1 * q2) < pw 60) :
    Calls Tryz.prog 27 #[.agg #[.int .i64 s1, .slice A1 n1 d1, .int .i64 s2, .slice A2 n2 d2], .agg #[.int .i64 s3, .slice A3 n3 d3, .int .i64 s4, .slice A4 n4 d4]] w fun e w' => e = .returned (.tuple #[.agg #[.int .i64 0, .slice none 0 0, .int .i64 0, .slice none 0 0], .int .i64 6]) ∧ Below w.heap.size w w' := by
  have H1 := Lib.hid h1; clear h1
  have H2 := Lib.hid h2; clear h2
  have H3 := Lib.hid h3; clear h3
  have H4 := Lib.hid h4; clear h4
  have F1 := Lib.hid r1; clear r1
  have F2 := Lib.hid r2; clear r2
  have G0 := Lib.hid f0; clear f0
  go_enter Tryz.func27, Tryz.ntmps27
  go_wp2_with fail
  obtain ⟨W0, hW, hbx, ka, kb, kR⟩ := fboxes2 ha hb
  rw [← hW]
  clear hW ha hb
  have hT := hbx
  have zka0 := ka.c0
  have zka1 := ka.c1
  have zka2 := ka.c2
  have zka3 := ka.c3
  go_wp2_with fail
  clear zka0 zka1 zka2 zka3
  (with_reducible refine (rfright_yes _ ka.fv H1.out H2.out F1.out).mono ?_)
  rintro e u1 ⟨rfl, hb9⟩
  replace hT := hT.trans (hb9.mono hT.size)
  replace ka := ka.below hb9
  replace kb := kb.below hb9
  replace kR := kR.below hb9
  have zkb0 := kb.c0
  have zkb1 := kb.c1
  have zkb2 := kb.c2
  have zkb3 := kb.c3
  go_wp2_with fail
  clear zkb0 zkb1 zkb2 zkb3
  (with_reducible refine (rfright_yes _ kb.fv H3.out H4.out F2.out).mono ?_)
  rintro e u2 ⟨rfl, hb9⟩
  replace hT := hT.trans (hb9.mono hT.size)
  replace ka := ka.below hb9
  replace kb := kb.below hb9
  replace kR := kR.below hb9
  have zka0 := ka.c0
  have zka1 := ka.c1
  have zkb2 := kb.c2
  have zkb3 := kb.c3
  go_wp2_with fail
  clear zka0 zka1 zkb2 zkb3
  (with_reducible refine (rmulb_any _ ka.fv.a kb.fv.b H1.out H4.out).mono ?_)
  rintro e v0 ⟨rr0, rfl, hr0, hb9⟩
  replace hT := hT.trans (hb9.mono hT.size)
  replace ka := ka.below hb9
  replace kb := kb.below hb9
  replace kR := kR.below hb9
  rw [show fite (p1 * q2) = 6 from if_neg (Int.not_lt.2 G0.out)]
  obtain ⟨x0, X0, y0, Y0, rfl⟩ := hr0.form
  obtain ⟨W1, hW, hbx, k0⟩ := box1 hr0
  have kbw := kb.below hbx
  have zkb0 := kbw.c0
  have zkb1 := kbw.c1
  have kaw := ka.below hbx
  have zka2 := kaw.c2
  have zka3 := kaw.c3
  rw [hW] at zkb0 zkb1 zka2 zka3
  go_wp2_with fail
  clear zkb0 zkb1 zka2 zka3
  clear kbw
  clear kaw
  rw [← hW]
  clear hW
  replace hT := hT.trans (hbx.mono hT.size)
  replace ka := ka.below hbx
  replace kb := kb.below hbx
  replace kR := kR.below hbx
  clear hr0
  (with_reducible refine (rmulb_any _ kb.fv.a ka.fv.b H3.out H2.out).mono ?_)
  rintro e v1 ⟨rr1, rfl, hr1, hb9⟩
  replace hT := hT.trans (hb9.mono hT.size)
  replace ka := ka.below hb9
  replace kb := kb.below hb9
  replace kR := kR.below hb9
  replace k0 := k0.below hb9
  obtain ⟨E1, hE1⟩ : ∃ E, fite (p2 * q1) = E := ⟨_, rfl⟩
  rw [hE1]
  clear hE1
  obtain ⟨x1, X1, y1, Y1, rfl⟩ := hr1.form
  obtain ⟨W2, hW, hbx, k1⟩ := box1 hr1
  have kaw := ka.below hbx
  have zka2 := kaw.c2
  have zka3 := kaw.c3
  have kbw := kb.below hbx
  have zkb2 := kbw.c2
  have zkb3 := kbw.c3
  rw [hW] at zka2 zka3 zkb2 zkb3
  go_wp2_with fail
  clear zka2 zka3 zkb2 zkb3
  clear kaw
  clear kbw
  rw [← hW]
  clear hW
  replace hT := hT.trans (hbx.mono hT.size)
  replace ka := ka.below hbx
  replace kb := kb.below hbx
  replace kR := kR.below hbx
  replace k0 := k0.below hbx
  clear hr1
  (with_reducible refine (rmulb_any _ ka.fv.b kb.fv.b H2.out H4.out).mono ?_)
  rintro e v2 ⟨rr2, rfl, hr2, hb9⟩
  replace hT := hT.trans (hb9.mono hT.size)
  replace ka := ka.below hb9
  replace kb := kb.below hb9
  replace kR := kR.below hb9
  replace k0 := k0.below hb9
  replace k1 := k1.below hb9
  obtain ⟨E2, hE2⟩ : ∃ E, fite (q1 * q2) = E := ⟨_, rfl⟩
  rw [hE2]
  clear hE2
  obtain ⟨x2, X2, y2, Y2, rfl⟩ := hr2.form
  obtain ⟨W3, hW, hbx, k2⟩ := box1 hr2
  have k0w := k0.below hbx
  have zk00 := k0w.c0
  have zk01 := k0w.c1
  have k1w := k1.below hbx
  have zk10 := k1w.c0
  have zk11 := k1w.c1
  rw [hW] at zk00 zk01 zk10 zk11
  go_wp2_with fail
  clear zk00 zk01 zk10 zk11
  clear k0w
  clear k1w
  rw [← hW]
  clear hW
  replace hT := hT.trans (hbx.mono hT.size)
  replace ka := ka.below hbx
  replace kb := kb.below hbx
  replace kR := kR.below hbx
  replace k0 := k0.below hbx
  replace k1 := k1.below hbx
  clear hr2
  (with_reducible refine (rsubb_any _ k0.bv k1.bv (fitz_lt (p1 * q2)) (fitz_lt (p2 * q1))).mono ?_)
  rintro e v3 ⟨rr3, rfl, hr3, hb9⟩
  replace hT := hT.trans (hb9.mono hT.size)
  replace ka := ka.below hb9
  replace kb := kb.below hb9
  replace kR := kR.below hb9
  replace k0 := k0.below hb9
  replace k1 := k1.below hb9
  replace k2 := k2.below hb9
  obtain ⟨E3, hE3⟩ : ∃ E, fite (fitz (p1 * q2) - fitz (p2 * q1)) = E := ⟨_, rfl⟩
  rw [hE3]
  clear hE3
  obtain ⟨x3, X3, y3, Y3, rfl⟩ := hr3.form
  obtain ⟨W4, hW, hbx, k3⟩ := box1 hr3
  have k2w := k2.below hbx
  have zk30 := k3.c0
  have zk31 := k3.c1
  have zk20 := k2w.c0
  have zk21 := k2w.c1
  rw [hW] at zk30 zk31 zk20 zk21
  go_wp2_with fail
  clear zk30 zk31 zk20 zk21 k2w
  rw [← hW]
  clear hW
  replace hT := hT.trans (hbx.mono hT.size)
  replace ka := ka.below hbx
  replace kb := kb.below hbx
  replace kR := kR.below hbx
  replace k0 := k0.below hbx
  replace k1 := k1.below hbx
  replace k2 := k2.below hbx
  clear hr3
  have hlt := kR.blk.lt
  (with_reducible refine (rmade_bad _ _ _ _ _ _ _ _ _ _ _ k3.bv k2.bv).mono ?_)
  rintro e u3 ⟨rfl, hb9⟩
  replace hT := hT.trans (hb9.mono hT.size)
  replace kR := kR.below hb9
  clear ka kb k0 k1 k2 k3
  have gR : w.heap.size ≤ w.heap.size + 1 + 1 := by omega
  have r0 := kR.blk.cell 0
  have r1 := kR.blk.cell 1
  have r2 := kR.blk.cell 2
  have r3 := kR.blk.cell 3
  have q0' := kR.blk.frozen 0
  have q1' := kR.blk.frozen 1
  have q2' := kR.blk.frozen 2
  have q3' := kR.blk.frozen 3
  simp at r0 r1 r2 r3
  have hbs := kR.blk.set4 (.int .i64 0) (.slice none 0 0) (.int .i64 0) (.slice none 0 0)
  have x0 := hbs.cell 0
  have x1 := hbs.cell 1
  have x2 := hbs.cell 2
  have x3 := hbs.cell 3
  simp at x0 x1 x2 x3
  go_wp2_with fail
  refine bodyPost_ret (v := .tuple #[.agg #[.int .i64 0, .slice none 0 0, .int .i64 0, .slice none 0 0], .int .i64 6]) (by simp [results, Tryz.results27, go_sem, x0, x1, x2, x3]) rfl ?_
  exact ⟨rfl, below_st4 hT gR _ _ _ _⟩

set_option maxRecDepth 100000 in
set_option maxHeartbeats 8000000 in
theorem rfsub_1 (s1 s2 s3 s4 : Int) (A1 A2 A3 A4 : Option Addr) (n1 d1 n2 d2 n3 d3 n4 d4 : Nat) (p1 q1 p2 q2 : Int) (w : World) (ha : FV w w.heap.size s1 A1 n1 d1 s2 A2 n2 d2 p1 q1) (hb : FV w w.heap.size s3 A3 n3 d3 s4 A4 n4 d4 p2 q2) (h1 : ab p1 < pw 60) (h2 : ab q1 < pw 60) (h3 : ab p2 < pw 60) (h4 : ab q2 < pw 60) (r1 : FR p1 q1) (r2 : FR p2 q2) (f0 : ab (p1 * q2) < pw 60) (f1 : ¬ ab (p2 * q1) < pw 60) :
    Calls Tryz.prog 27 #[.agg #[.int .i64 s1, .slice A1 n1 d1, .int .i64 s2, .slice A2 n2 d2], .agg #[.int .i64 s3, .slice A3 n3 d3, .int .i64 s4, .slice A4 n4 d4]] w fun e w' => e = .returned (.tuple #[.agg #[.int .i64 0, .slice none 0 0, .int .i64 0, .slice none 0 0], .int .i64 6]) ∧ Below w.heap.size w w' := by
  have H1 := Lib.hid h1; clear h1
  have H2 := Lib.hid h2; clear h2
  have H3 := Lib.hid h3; clear h3
  have H4 := Lib.hid h4; clear h4
  have F1 := Lib.hid r1; clear r1
  have F2 := Lib.hid r2; clear r2
  have G0 := Lib.hid f0; clear f0
  have G1 := Lib.hid f1; clear f1
  go_enter Tryz.func27, Tryz.ntmps27
  go_wp2_with fail
  obtain ⟨W0, hW, hbx, ka, kb, kR⟩ := fboxes2 ha hb
  rw [← hW]
  clear hW ha hb
  have hT := hbx
  have zka0 := ka.c0
  have zka1 := ka.c1
  have zka2 := ka.c2
  have zka3 := ka.c3
  go_wp2_with fail
  clear zka0 zka1 zka2 zka3
  (with_reducible refine (rfright_yes _ ka.fv H1.out H2.out F1.out).mono ?_)
  rintro e u1 ⟨rfl, hb9⟩
  replace hT := hT.trans (hb9.mono hT.size)
  replace ka := ka.below hb9
  replace kb := kb.below hb9
  replace kR := kR.below hb9
  have zkb0 := kb.c0
  have zkb1 := kb.c1
  have zkb2 := kb.c2
  have zkb3 := kb.c3
  go_wp2_with fail
  clear zkb0 zkb1 zkb2 zkb3
  (with_reducible refine (rfright_yes _ kb.fv H3.out H4.out F2.out).mono ?_)
  rintro e u2 ⟨rfl, hb9⟩
  replace hT := hT.trans (hb9.mono hT.size)
  replace ka := ka.below hb9
  replace kb := kb.below hb9
  replace kR := kR.below hb9
  have zka0 := ka.c0
  have zka1 := ka.c1
  have zkb2 := kb.c2
  have zkb3 := kb.c3
  go_wp2_with fail
  clear zka0 zka1 zkb2 zkb3
  (with_reducible refine (rmulb_any _ ka.fv.a kb.fv.b H1.out H4.out).mono ?_)
  rintro e v0 ⟨rr0, rfl, hr0, hb9⟩
  replace hT := hT.trans (hb9.mono hT.size)
  replace ka := ka.below hb9
  replace kb := kb.below hb9
  replace kR := kR.below hb9
  rw [(fits G0.out).1]
  rw [(fits G0.out).2] at hr0
  obtain ⟨x0, X0, y0, Y0, rfl⟩ := hr0.form
  obtain ⟨W1, hW, hbx, k0⟩ := box1 hr0
  have kbw := kb.below hbx
  have zkb0 := kbw.c0
  have zkb1 := kbw.c1
  have kaw := ka.below hbx
  have zka2 := kaw.c2
  have zka3 := kaw.c3
  rw [hW] at zkb0 zkb1 zka2 zka3
  go_wp2_with fail
  clear zkb0 zkb1 zka2 zka3
  clear kbw
  clear kaw
  rw [← hW]
  clear hW
  replace hT := hT.trans (hbx.mono hT.size)
  replace ka := ka.below hbx
  replace kb := kb.below hbx
  replace kR := kR.below hbx
  clear hr0
  (with_reducible refine (rmulb_any _ kb.fv.a ka.fv.b H3.out H2.out).mono ?_)
  rintro e v1 ⟨rr1, rfl, hr1, hb9⟩
  replace hT := hT.trans (hb9.mono hT.size)
  replace ka := ka.below hb9
  replace kb := kb.below hb9
  replace kR := kR.below hb9
  replace k0 := k0.below hb9
  rw [show fite (p2 * q1) = 6 from if_neg (Int.not_lt.2 G1.out)]
  obtain ⟨x1, X1, y1, Y1, rfl⟩ := hr1.form
  obtain ⟨W2, hW, hbx, k1⟩ := box1 hr1
  have kaw := ka.below hbx
  have zka2 := kaw.c2
  have zka3 := kaw.c3
  have kbw := kb.below hbx
  have zkb2 := kbw.c2
  have zkb3 := kbw.c3
  rw [hW] at zka2 zka3 zkb2 zkb3
  go_wp2_with fail
  clear zka2 zka3 zkb2 zkb3
  clear kaw
  clear kbw
  rw [← hW]
  clear hW
  replace hT := hT.trans (hbx.mono hT.size)
  replace ka := ka.below hbx
  replace kb := kb.below hbx
  replace kR := kR.below hbx
  replace k0 := k0.below hbx
  clear hr1
  (with_reducible refine (rmulb_any _ ka.fv.b kb.fv.b H2.out H4.out).mono ?_)
  rintro e v2 ⟨rr2, rfl, hr2, hb9⟩
  replace hT := hT.trans (hb9.mono hT.size)
  replace ka := ka.below hb9
  replace kb := kb.below hb9
  replace kR := kR.below hb9
  replace k0 := k0.below hb9
  replace k1 := k1.below hb9
  obtain ⟨E2, hE2⟩ : ∃ E, fite (q1 * q2) = E := ⟨_, rfl⟩
  rw [hE2]
  clear hE2
  obtain ⟨x2, X2, y2, Y2, rfl⟩ := hr2.form
  obtain ⟨W3, hW, hbx, k2⟩ := box1 hr2
  have k0w := k0.below hbx
  have zk00 := k0w.c0
  have zk01 := k0w.c1
  have k1w := k1.below hbx
  have zk10 := k1w.c0
  have zk11 := k1w.c1
  rw [hW] at zk00 zk01 zk10 zk11
  go_wp2_with fail
  clear zk00 zk01 zk10 zk11
  clear k0w
  clear k1w
  rw [← hW]
  clear hW
  replace hT := hT.trans (hbx.mono hT.size)
  replace ka := ka.below hbx
  replace kb := kb.below hbx
  replace kR := kR.below hbx
  replace k0 := k0.below hbx
  replace k1 := k1.below hbx
  clear hr2
  (with_reducible refine (rsubb_any _ k0.bv k1.bv G0.out (fitz_lt (p2 * q1))).mono ?_)
  rintro e v3 ⟨rr3, rfl, hr3, hb9⟩
  replace hT := hT.trans (hb9.mono hT.size)
  replace ka := ka.below hb9
  replace kb := kb.below hb9
  replace kR := kR.below hb9
  replace k0 := k0.below hb9
  replace k1 := k1.below hb9
  replace k2 := k2.below hb9
  obtain ⟨E3, hE3⟩ : ∃ E, fite ((p1 * q2) - fitz (p2 * q1)) = E := ⟨_, rfl⟩
  rw [hE3]
  clear hE3
  obtain ⟨x3, X3, y3, Y3, rfl⟩ := hr3.form
  obtain ⟨W4, hW, hbx, k3⟩ := box1 hr3
  have k2w := k2.below hbx
  have zk30 := k3.c0
  have zk31 := k3.c1
  have zk20 := k2w.c0
  have zk21 := k2w.c1
  rw [hW] at zk30 zk31 zk20 zk21
  go_wp2_with fail
  clear zk30 zk31 zk20 zk21 k2w
  rw [← hW]
  clear hW
  replace hT := hT.trans (hbx.mono hT.size)
  replace ka := ka.below hbx
  replace kb := kb.below hbx
  replace kR := kR.below hbx
  replace k0 := k0.below hbx
  replace k1 := k1.below hbx
  replace k2 := k2.below hbx
  clear hr3
  have hlt := kR.blk.lt
  (with_reducible refine (rmade_bad _ _ _ _ _ _ _ _ _ _ _ k3.bv k2.bv).mono ?_)
  rintro e u3 ⟨rfl, hb9⟩
  replace hT := hT.trans (hb9.mono hT.size)
  replace kR := kR.below hb9
  clear ka kb k0 k1 k2 k3
  have gR : w.heap.size ≤ w.heap.size + 1 + 1 := by omega
  have r0 := kR.blk.cell 0
  have r1 := kR.blk.cell 1
  have r2 := kR.blk.cell 2
  have r3 := kR.blk.cell 3
  have q0' := kR.blk.frozen 0
  have q1' := kR.blk.frozen 1
  have q2' := kR.blk.frozen 2
  have q3' := kR.blk.frozen 3
  simp at r0 r1 r2 r3
  have hbs := kR.blk.set4 (.int .i64 0) (.slice none 0 0) (.int .i64 0) (.slice none 0 0)
  have x0 := hbs.cell 0
  have x1 := hbs.cell 1
  have x2 := hbs.cell 2
  have x3 := hbs.cell 3
  simp at x0 x1 x2 x3
  go_wp2_with fail
  refine bodyPost_ret (v := .tuple #[.agg #[.int .i64 0, .slice none 0 0, .int .i64 0, .slice none 0 0], .int .i64 6]) (by simp [results, Tryz.results27, go_sem, x0, x1, x2, x3]) rfl ?_
  exact ⟨rfl, below_st4 hT gR _ _ _ _⟩

set_option maxRecDepth 100000 in
set_option maxHeartbeats 8000000 in
theorem rfsub_2 (s1 s2 s3 s4 : Int) (A1 A2 A3 A4 : Option Addr) (n1 d1 n2 d2 n3 d3 n4 d4 : Nat) (p1 q1 p2 q2 : Int) (w : World) (ha : FV w w.heap.size s1 A1 n1 d1 s2 A2 n2 d2 p1 q1) (hb : FV w w.heap.size s3 A3 n3 d3 s4 A4 n4 d4 p2 q2) (h1 : ab p1 < pw 60) (h2 : ab q1 < pw 60) (h3 : ab p2 < pw 60) (h4 : ab q2 < pw 60) (r1 : FR p1 q1) (r2 : FR p2 q2) (f0 : ab (p1 * q2) < pw 60) (f1 : ab (p2 * q1) < pw 60) (f2 : ¬ ab (q1 * q2) < pw 60) :
    Calls Tryz.prog 27 #[.agg #[.int .i64 s1, .slice A1 n1 d1, .int .i64 s2, .slice A2 n2 d2], .agg #[.int .i64 s3, .slice A3 n3 d3, .int .i64 s4, .slice A4 n4 d4]] w fun e w' => e = .returned (.tuple #[.agg #[.int .i64 0, .slice none 0 0, .int .i64 0, .slice none 0 0], .int .i64 6]) ∧ Below w.heap.size w w' := by
  have H1 := Lib.hid h1; clear h1
  have H2 := Lib.hid h2; clear h2
  have H3 := Lib.hid h3; clear h3
  have H4 := Lib.hid h4; clear h4
  have F1 := Lib.hid r1; clear r1
  have F2 := Lib.hid r2; clear r2
  have G0 := Lib.hid f0; clear f0
  have G1 := Lib.hid f1; clear f1
  have G2 := Lib.hid f2; clear f2
  go_enter Tryz.func27, Tryz.ntmps27
  go_wp2_with fail
  obtain ⟨W0, hW, hbx, ka, kb, kR⟩ := fboxes2 ha hb
  rw [← hW]
  clear hW ha hb
  have hT := hbx
  have zka0 := ka.c0
  have zka1 := ka.c1
  have zka2 := ka.c2
  have zka3 := ka.c3
  go_wp2_with fail
  clear zka0 zka1 zka2 zka3
  (with_reducible refine (rfright_yes _ ka.fv H1.out H2.out F1.out).mono ?_)
  rintro e u1 ⟨rfl, hb9⟩
  replace hT := hT.trans (hb9.mono hT.size)
  replace ka := ka.below hb9
  replace kb := kb.below hb9
  replace kR := kR.below hb9
  have zkb0 := kb.c0
  have zkb1 := kb.c1
  have zkb2 := kb.c2
  have zkb3 := kb.c3
  go_wp2_with fail
  clear zkb0 zkb1 zkb2 zkb3
  (with_reducible refine (rfright_yes _ kb.fv H3.out H4.out F2.out).mono ?_)
  rintro e u2 ⟨rfl, hb9⟩
  replace hT := hT.trans (hb9.mono hT.size)
  replace ka := ka.below hb9
  replace kb := kb.below hb9
  replace kR := kR.below hb9
  have zka0 := ka.c0
  have zka1 := ka.c1
  have zkb2 := kb.c2
  have zkb3 := kb.c3
  go_wp2_with fail
  clear zka0 zka1 zkb2 zkb3
  (with_reducible refine (rmulb_any _ ka.fv.a kb.fv.b H1.out H4.out).mono ?_)
  rintro e v0 ⟨rr0, rfl, hr0, hb9⟩
  replace hT := hT.trans (hb9.mono hT.size)
  replace ka := ka.below hb9
  replace kb := kb.below hb9
  replace kR := kR.below hb9
  rw [(fits G0.out).1]
  rw [(fits G0.out).2] at hr0
  obtain ⟨x0, X0, y0, Y0, rfl⟩ := hr0.form
  obtain ⟨W1, hW, hbx, k0⟩ := box1 hr0
  have kbw := kb.below hbx
  have zkb0 := kbw.c0
  have zkb1 := kbw.c1
  have kaw := ka.below hbx
  have zka2 := kaw.c2
  have zka3 := kaw.c3
  rw [hW] at zkb0 zkb1 zka2 zka3
  go_wp2_with fail
  clear zkb0 zkb1 zka2 zka3
  clear kbw
  clear kaw
  rw [← hW]
  clear hW
  replace hT := hT.trans (hbx.mono hT.size)
  replace ka := ka.below hbx
  replace kb := kb.below hbx
  replace kR := kR.below hbx
  clear hr0
  (with_reducible refine (rmulb_any _ kb.fv.a ka.fv.b H3.out H2.out).mono ?_)
  rintro e v1 ⟨rr1, rfl, hr1, hb9⟩
  replace hT := hT.trans (hb9.mono hT.size)
  replace ka := ka.below hb9
  replace kb := kb.below hb9
  replace kR := kR.below hb9
  replace k0 := k0.below hb9
  rw [(fits G1.out).1]
  rw [(fits G1.out).2] at hr1
  obtain ⟨x1, X1, y1, Y1, rfl⟩ := hr1.form
  obtain ⟨W2, hW, hbx, k1⟩ := box1 hr1
  have kaw := ka.below hbx
  have zka2 := kaw.c2
  have zka3 := kaw.c3
  have kbw := kb.below hbx
  have zkb2 := kbw.c2
  have zkb3 := kbw.c3
  rw [hW] at zka2 zka3 zkb2 zkb3
  go_wp2_with fail
  clear zka2 zka3 zkb2 zkb3
  clear kaw
  clear kbw
  rw [← hW]
  clear hW
  replace hT := hT.trans (hbx.mono hT.size)
  replace ka := ka.below hbx
  replace kb := kb.below hbx
  replace kR := kR.below hbx
  replace k0 := k0.below hbx
  clear hr1
  (with_reducible refine (rmulb_any _ ka.fv.b kb.fv.b H2.out H4.out).mono ?_)
  rintro e v2 ⟨rr2, rfl, hr2, hb9⟩
  replace hT := hT.trans (hb9.mono hT.size)
  replace ka := ka.below hb9
  replace kb := kb.below hb9
  replace kR := kR.below hb9
  replace k0 := k0.below hb9
  replace k1 := k1.below hb9
  rw [show fite (q1 * q2) = 6 from if_neg (Int.not_lt.2 G2.out)]
  obtain ⟨x2, X2, y2, Y2, rfl⟩ := hr2.form
  obtain ⟨W3, hW, hbx, k2⟩ := box1 hr2
  have k0w := k0.below hbx
  have zk00 := k0w.c0
  have zk01 := k0w.c1
  have k1w := k1.below hbx
  have zk10 := k1w.c0
  have zk11 := k1w.c1
  rw [hW] at zk00 zk01 zk10 zk11
  go_wp2_with fail
  clear zk00 zk01 zk10 zk11
  clear k0w
  clear k1w
  rw [← hW]
  clear hW
  replace hT := hT.trans (hbx.mono hT.size)
  replace ka := ka.below hbx
  replace kb := kb.below hbx
  replace kR := kR.below hbx
  replace k0 := k0.below hbx
  replace k1 := k1.below hbx
  clear hr2
  (with_reducible refine (rsubb_any _ k0.bv k1.bv G0.out G1.out).mono ?_)
  rintro e v3 ⟨rr3, rfl, hr3, hb9⟩
  replace hT := hT.trans (hb9.mono hT.size)
  replace ka := ka.below hb9
  replace kb := kb.below hb9
  replace kR := kR.below hb9
  replace k0 := k0.below hb9
  replace k1 := k1.below hb9
  replace k2 := k2.below hb9
  obtain ⟨E3, hE3⟩ : ∃ E, fite ((p1 * q2) - (p2 * q1)) = E := ⟨_, rfl⟩
  rw [hE3]
  clear hE3
  obtain ⟨x3, X3, y3, Y3, rfl⟩ := hr3.form
  obtain ⟨W4, hW, hbx, k3⟩ := box1 hr3
  have k2w := k2.below hbx
  have zk30 := k3.c0
  have zk31 := k3.c1
  have zk20 := k2w.c0
  have zk21 := k2w.c1
  rw [hW] at zk30 zk31 zk20 zk21
  go_wp2_with fail
  clear zk30 zk31 zk20 zk21 k2w
  rw [← hW]
  clear hW
  replace hT := hT.trans (hbx.mono hT.size)
  replace ka := ka.below hbx
  replace kb := kb.below hbx
  replace kR := kR.below hbx
  replace k0 := k0.below hbx
  replace k1 := k1.below hbx
  replace k2 := k2.below hbx
  clear hr3
  have hlt := kR.blk.lt
  (with_reducible refine (rmade_bad _ _ _ _ _ _ _ _ _ _ _ k3.bv k2.bv).mono ?_)
  rintro e u3 ⟨rfl, hb9⟩
  replace hT := hT.trans (hb9.mono hT.size)
  replace kR := kR.below hb9
  clear ka kb k0 k1 k2 k3
  have gR : w.heap.size ≤ w.heap.size + 1 + 1 := by omega
  have r0 := kR.blk.cell 0
  have r1 := kR.blk.cell 1
  have r2 := kR.blk.cell 2
  have r3 := kR.blk.cell 3
  have q0' := kR.blk.frozen 0
  have q1' := kR.blk.frozen 1
  have q2' := kR.blk.frozen 2
  have q3' := kR.blk.frozen 3
  simp at r0 r1 r2 r3
  have hbs := kR.blk.set4 (.int .i64 0) (.slice none 0 0) (.int .i64 0) (.slice none 0 0)
  have x0 := hbs.cell 0
  have x1 := hbs.cell 1
  have x2 := hbs.cell 2
  have x3 := hbs.cell 3
  simp at x0 x1 x2 x3
  go_wp2_with fail
  refine bodyPost_ret (v := .tuple #[.agg #[.int .i64 0, .slice none 0 0, .int .i64 0, .slice none 0 0], .int .i64 6]) (by simp [results, Tryz.results27, go_sem, x0, x1, x2, x3]) rfl ?_
  exact ⟨rfl, below_st4 hT gR _ _ _ _⟩

set_option maxRecDepth 100000 in
set_option maxHeartbeats 8000000 in
theorem rfsub_3 (s1 s2 s3 s4 : Int) (A1 A2 A3 A4 : Option Addr) (n1 d1 n2 d2 n3 d3 n4 d4 : Nat) (p1 q1 p2 q2 : Int) (w : World) (ha : FV w w.heap.size s1 A1 n1 d1 s2 A2 n2 d2 p1 q1) (hb : FV w w.heap.size s3 A3 n3 d3 s4 A4 n4 d4 p2 q2) (h1 : ab p1 < pw 60) (h2 : ab q1 < pw 60) (h3 : ab p2 < pw 60) (h4 : ab q2 < pw 60) (r1 : FR p1 q1) (r2 : FR p2 q2) (f0 : ab (p1 * q2) < pw 60) (f1 : ab (p2 * q1) < pw 60) (f2 : ab (q1 * q2) < pw 60) (f3 : ¬ ab (p1 * q2 - p2 * q1) < pw 60) :
    Calls Tryz.prog 27 #[.agg #[.int .i64 s1, .slice A1 n1 d1, .int .i64 s2, .slice A2 n2 d2], .agg #[.int .i64 s3, .slice A3 n3 d3, .int .i64 s4, .slice A4 n4 d4]] w fun e w' => e = .returned (.tuple #[.agg #[.int .i64 0, .slice none 0 0, .int .i64 0, .slice none 0 0], .int .i64 6]) ∧ Below w.heap.size w w' := by
  have H1 := Lib.hid h1; clear h1
  have H2 := Lib.hid h2; clear h2
  have H3 := Lib.hid h3; clear h3
  have H4 := Lib.hid h4; clear h4
  have F1 := Lib.hid r1; clear r1
  have F2 := Lib.hid r2; clear r2
  have G0 := Lib.hid f0; clear f0
  have G1 := Lib.hid f1; clear f1
  have G2 := Lib.hid f2; clear f2
  have G3 := Lib.hid f3; clear f3
  go_enter Tryz.func27, Tryz.ntmps27
  go_wp2_with fail
  obtain ⟨W0, hW, hbx, ka, kb, kR⟩ := fboxes2 ha hb
  rw [← hW]
  clear hW ha hb
  have hT := hbx
  have zka0 := ka.c0
  have zka1 := ka.c1
  have zka2 := ka.c2
  have zka3 := ka.c3
  go_wp2_with fail
  clear zka0 zka1 zka2 zka3
  (with_reducible refine (rfright_yes _ ka.fv H1.out H2.out F1.out).mono ?_)
  rintro e u1 ⟨rfl, hb9⟩
  replace hT := hT.trans (hb9.mono hT.size)
  replace ka := ka.below hb9
  replace kb := kb.below hb9
  replace kR := kR.below hb9
  have zkb0 := kb.c0
  have zkb1 := kb.c1
  have zkb2 := kb.c2
  have zkb3 := kb.c3
  go_wp2_with fail
  clear zkb0 zkb1 zkb2 zkb3
  (with_reducible refine (rfright_yes _ kb.fv H3.out H4.out F2.out).mono ?_)
  rintro e u2 ⟨rfl, hb9⟩
  replace hT := hT.trans (hb9.mono hT.size)
  replace ka := ka.below hb9
  replace kb := kb.below hb9
  replace kR := kR.below hb9
  have zka0 := ka.c0
  have zka1 := ka.c1
  have zkb2 := kb.c2
  have zkb3 := kb.c3
  go_wp2_with fail
  clear zka0 zka1 zkb2 zkb3
  (with_reducible refine (rmulb_any _ ka.fv.a kb.fv.b H1.out H4.out).mono ?_)
  rintro e v0 ⟨rr0, rfl, hr0, hb9⟩
  replace hT := hT.trans (hb9.mono hT.size)
  replace ka := ka.below hb9
  replace kb := kb.below hb9
  replace kR := kR.below hb9
  rw [(fits G0.out).1]
  rw [(fits G0.out).2] at hr0
  obtain ⟨x0, X0, y0, Y0, rfl⟩ := hr0.form
  obtain ⟨W1, hW, hbx, k0⟩ := box1 hr0
  have kbw := kb.below hbx
  have zkb0 := kbw.c0
  have zkb1 := kbw.c1
  have kaw := ka.below hbx
  have zka2 := kaw.c2
  have zka3 := kaw.c3
  rw [hW] at zkb0 zkb1 zka2 zka3
  go_wp2_with fail
  clear zkb0 zkb1 zka2 zka3
  clear kbw
  clear kaw
  rw [← hW]
  clear hW
  replace hT := hT.trans (hbx.mono hT.size)
  replace ka := ka.below hbx
  replace kb := kb.below hbx
  replace kR := kR.below hbx
  clear hr0
  (with_reducible refine (rmulb_any _ kb.fv.a ka.fv.b H3.out H2.out).mono ?_)
  rintro e v1 ⟨rr1, rfl, hr1, hb9⟩
  replace hT := hT.trans (hb9.mono hT.size)
  replace ka := ka.below hb9
  replace kb := kb.below hb9
  replace kR := kR.below hb9
  replace k0 := k0.below hb9
  rw [(fits G1.out).1]
  rw [(fits G1.out).2] at hr1
  obtain ⟨x1, X1, y1, Y1, rfl⟩ := hr1.form
  obtain ⟨W2, hW, hbx, k1⟩ := box1 hr1
  have kaw := ka.below hbx
  have zka2 := kaw.c2
  have zka3 := kaw.c3
  have kbw := kb.below hbx
  have zkb2 := kbw.c2
  have zkb3 := kbw.c3
  rw [hW] at zka2 zka3 zkb2 zkb3
  go_wp2_with fail
  clear zka2 zka3 zkb2 zkb3
  clear kaw
  clear kbw
  rw [← hW]
  clear hW
  replace hT := hT.trans (hbx.mono hT.size)
  replace ka := ka.below hbx
  replace kb := kb.below hbx
  replace kR := kR.below hbx
  replace k0 := k0.below hbx
  clear hr1
  (with_reducible refine (rmulb_any _ ka.fv.b kb.fv.b H2.out H4.out).mono ?_)
  rintro e v2 ⟨rr2, rfl, hr2, hb9⟩
  replace hT := hT.trans (hb9.mono hT.size)
  replace ka := ka.below hb9
  replace kb := kb.below hb9
  replace kR := kR.below hb9
  replace k0 := k0.below hb9
  replace k1 := k1.below hb9
  rw [(fits G2.out).1]
  rw [(fits G2.out).2] at hr2
  obtain ⟨x2, X2, y2, Y2, rfl⟩ := hr2.form
  obtain ⟨W3, hW, hbx, k2⟩ := box1 hr2
  have k0w := k0.below hbx
  have zk00 := k0w.c0
  have zk01 := k0w.c1
  have k1w := k1.below hbx
  have zk10 := k1w.c0
  have zk11 := k1w.c1
  rw [hW] at zk00 zk01 zk10 zk11
  go_wp2_with fail
  clear zk00 zk01 zk10 zk11
  clear k0w
  clear k1w
  rw [← hW]
  clear hW
  replace hT := hT.trans (hbx.mono hT.size)
  replace ka := ka.below hbx
  replace kb := kb.below hbx
  replace kR := kR.below hbx
  replace k0 := k0.below hbx
  replace k1 := k1.below hbx
  clear hr2
  (with_reducible refine (rsubb_any _ k0.bv k1.bv G0.out G1.out).mono ?_)
  rintro e v3 ⟨rr3, rfl, hr3, hb9⟩
  replace hT := hT.trans (hb9.mono hT.size)
  replace ka := ka.below hb9
  replace kb := kb.below hb9
  replace kR := kR.below hb9
  replace k0 := k0.below hb9
  replace k1 := k1.below hb9
  replace k2 := k2.below hb9
  rw [show fite (p1 * q2 - p2 * q1) = 6 from if_neg (Int.not_lt.2 G3.out)]
  obtain ⟨x3, X3, y3, Y3, rfl⟩ := hr3.form
  obtain ⟨W4, hW, hbx, k3⟩ := box1 hr3
  have k2w := k2.below hbx
  have zk30 := k3.c0
  have zk31 := k3.c1
  have zk20 := k2w.c0
  have zk21 := k2w.c1
  rw [hW] at zk30 zk31 zk20 zk21
  go_wp2_with fail
  clear zk30 zk31 zk20 zk21 k2w
  rw [← hW]
  clear hW
  replace hT := hT.trans (hbx.mono hT.size)
  replace ka := ka.below hbx
  replace kb := kb.below hbx
  replace kR := kR.below hbx
  replace k0 := k0.below hbx
  replace k1 := k1.below hbx
  replace k2 := k2.below hbx
  clear hr3
  have hlt := kR.blk.lt
  (with_reducible refine (rmade_bad _ _ _ _ _ _ _ _ _ _ _ k3.bv k2.bv).mono ?_)
  rintro e u3 ⟨rfl, hb9⟩
  replace hT := hT.trans (hb9.mono hT.size)
  replace kR := kR.below hb9
  clear ka kb k0 k1 k2 k3
  have gR : w.heap.size ≤ w.heap.size + 1 + 1 := by omega
  have r0 := kR.blk.cell 0
  have r1 := kR.blk.cell 1
  have r2 := kR.blk.cell 2
  have r3 := kR.blk.cell 3
  have q0' := kR.blk.frozen 0
  have q1' := kR.blk.frozen 1
  have q2' := kR.blk.frozen 2
  have q3' := kR.blk.frozen 3
  simp at r0 r1 r2 r3
  have hbs := kR.blk.set4 (.int .i64 0) (.slice none 0 0) (.int .i64 0) (.slice none 0 0)
  have x0 := hbs.cell 0
  have x1 := hbs.cell 1
  have x2 := hbs.cell 2
  have x3 := hbs.cell 3
  simp at x0 x1 x2 x3
  go_wp2_with fail
  refine bodyPost_ret (v := .tuple #[.agg #[.int .i64 0, .slice none 0 0, .int .i64 0, .slice none 0 0], .int .i64 6]) (by simp [results, Tryz.results27, go_sem, x0, x1, x2, x3]) rfl ?_
  exact ⟨rfl, below_st4 hT gR _ _ _ _⟩

set_option maxRecDepth 100000 in
set_option maxHeartbeats 8000000 in
theorem rfsub_fit (s1 s2 s3 s4 : Int) (A1 A2 A3 A4 : Option Addr) (n1 d1 n2 d2 n3 d3 n4 d4 : Nat) (p1 q1 p2 q2 : Int) (w : World) (ha : FV w w.heap.size s1 A1 n1 d1 s2 A2 n2 d2 p1 q1) (hb : FV w w.heap.size s3 A3 n3 d3 s4 A4 n4 d4 p2 q2) (h1 : ab p1 < pw 60) (h2 : ab q1 < pw 60) (h3 : ab p2 < pw 60) (h4 : ab q2 < pw 60) (r1 : FR p1 q1) (r2 : FR p2 q2) (f0 : ab (p1 * q2) < pw 60) (f1 : ab (p2 * q1) < pw 60) (f2 : ab (q1 * q2) < pw 60) (f3 : ab (p1 * q2 - p2 * q1) < pw 60) :
    Calls Tryz.prog 27 #[.agg #[.int .i64 s1, .slice A1 n1 d1, .int .i64 s2, .slice A2 n2 d2], .agg #[.int .i64 s3, .slice A3 n3 d3, .int .i64 s4, .slice A4 n4 d4]] w (NewP (p1 * q2 - p2 * q1) (q1 * q2) w) := by
  have H1 := Lib.hid h1; clear h1
  have H2 := Lib.hid h2; clear h2
  have H3 := Lib.hid h3; clear h3
  have H4 := Lib.hid h4; clear h4
  have F1 := Lib.hid r1; clear r1
  have F2 := Lib.hid r2; clear r2
  have G0 := Lib.hid f0; clear f0
  have G1 := Lib.hid f1; clear f1
  have G2 := Lib.hid f2; clear f2
  have G3 := Lib.hid f3; clear f3
  unfold NewP
  obtain ⟨E, hE⟩ : ∃ E, newE (q1 * q2) = E := ⟨_, rfl⟩
  obtain ⟨P, hP⟩ : ∃ E, newN (p1 * q2 - p2 * q1) (q1 * q2) = E := ⟨_, rfl⟩
  obtain ⟨Q, hQ⟩ : ∃ E, newD (p1 * q2 - p2 * q1) (q1 * q2) = E := ⟨_, rfl⟩
  rw [hE, hP, hQ]
  have HE := Lib.hid hE; clear hE
  have HP := Lib.hid hP; clear hP
  have HQ := Lib.hid hQ; clear hQ
  go_enter Tryz.func27, Tryz.ntmps27
  go_wp2_with fail
  obtain ⟨W0, hW, hbx, ka, kb, kR⟩ := fboxes2 ha hb
  rw [← hW]
  clear hW ha hb
  have hT := hbx
  have zka0 := ka.c0
  have zka1 := ka.c1
  have zka2 := ka.c2
  have zka3 := ka.c3
  go_wp2_with fail
  clear zka0 zka1 zka2 zka3
  (with_reducible refine (rfright_yes _ ka.fv H1.out H2.out F1.out).mono ?_)
  rintro e u1 ⟨rfl, hb9⟩
  replace hT := hT.trans (hb9.mono hT.size)
  replace ka := ka.below hb9
  replace kb := kb.below hb9
  replace kR := kR.below hb9
  have zkb0 := kb.c0
  have zkb1 := kb.c1
  have zkb2 := kb.c2
  have zkb3 := kb.c3
  go_wp2_with fail
  clear zkb0 zkb1 zkb2 zkb3
  (with_reducible refine (rfright_yes _ kb.fv H3.out H4.out F2.out).mono ?_)
  rintro e u2 ⟨rfl, hb9⟩
  replace hT := hT.trans (hb9.mono hT.size)
  replace ka := ka.below hb9
  replace kb := kb.below hb9
  replace kR := kR.below hb9
  have zka0 := ka.c0
  have zka1 := ka.c1
  have zkb2 := kb.c2
  have zkb3 := kb.c3
  go_wp2_with fail
  clear zka0 zka1 zkb2 zkb3
  (with_reducible refine (rmulb_any _ ka.fv.a kb.fv.b H1.out H4.out).mono ?_)
  rintro e v0 ⟨rr0, rfl, hr0, hb9⟩
  replace hT := hT.trans (hb9.mono hT.size)
  replace ka := ka.below hb9
  replace kb := kb.below hb9
  replace kR := kR.below hb9
  rw [(fits G0.out).1]
  rw [(fits G0.out).2] at hr0
  obtain ⟨x0, X0, y0, Y0, rfl⟩ := hr0.form
  obtain ⟨W1, hW, hbx, k0⟩ := box1 hr0
  have kbw := kb.below hbx
  have zkb0 := kbw.c0
  have zkb1 := kbw.c1
  have kaw := ka.below hbx
  have zka2 := kaw.c2
  have zka3 := kaw.c3
  rw [hW] at zkb0 zkb1 zka2 zka3
  go_wp2_with fail
  clear zkb0 zkb1 zka2 zka3
  clear kbw
  clear kaw
  rw [← hW]
  clear hW
  replace hT := hT.trans (hbx.mono hT.size)
  replace ka := ka.below hbx
  replace kb := kb.below hbx
  replace kR := kR.below hbx
  clear hr0
  (with_reducible refine (rmulb_any _ kb.fv.a ka.fv.b H3.out H2.out).mono ?_)
  rintro e v1 ⟨rr1, rfl, hr1, hb9⟩
  replace hT := hT.trans (hb9.mono hT.size)
  replace ka := ka.below hb9
  replace kb := kb.below hb9
  replace kR := kR.below hb9
  replace k0 := k0.below hb9
  rw [(fits G1.out).1]
  rw [(fits G1.out).2] at hr1
  obtain ⟨x1, X1, y1, Y1, rfl⟩ := hr1.form
  obtain ⟨W2, hW, hbx, k1⟩ := box1 hr1
  have kaw := ka.below hbx
  have zka2 := kaw.c2
  have zka3 := kaw.c3
  have kbw := kb.below hbx
  have zkb2 := kbw.c2
  have zkb3 := kbw.c3
  rw [hW] at zka2 zka3 zkb2 zkb3
  go_wp2_with fail
  clear zka2 zka3 zkb2 zkb3
  clear kaw
  clear kbw
  rw [← hW]
  clear hW
  replace hT := hT.trans (hbx.mono hT.size)
  replace ka := ka.below hbx
  replace kb := kb.below hbx
  replace kR := kR.below hbx
  replace k0 := k0.below hbx
  clear hr1
  (with_reducible refine (rmulb_any _ ka.fv.b kb.fv.b H2.out H4.out).mono ?_)
  rintro e v2 ⟨rr2, rfl, hr2, hb9⟩
  replace hT := hT.trans (hb9.mono hT.size)
  replace ka := ka.below hb9
  replace kb := kb.below hb9
  replace kR := kR.below hb9
  replace k0 := k0.below hb9
  replace k1 := k1.below hb9
  rw [(fits G2.out).1]
  rw [(fits G2.out).2] at hr2
  obtain ⟨x2, X2, y2, Y2, rfl⟩ := hr2.form
  obtain ⟨W3, hW, hbx, k2⟩ := box1 hr2
  have k0w := k0.below hbx
  have zk00 := k0w.c0
  have zk01 := k0w.c1
  have k1w := k1.below hbx
  have zk10 := k1w.c0
  have zk11 := k1w.c1
  rw [hW] at zk00 zk01 zk10 zk11
  go_wp2_with fail
  clear zk00 zk01 zk10 zk11
  clear k0w
  clear k1w
  rw [← hW]
  clear hW
  replace hT := hT.trans (hbx.mono hT.size)
  replace ka := ka.below hbx
  replace kb := kb.below hbx
  replace kR := kR.below hbx
  replace k0 := k0.below hbx
  replace k1 := k1.below hbx
  clear hr2
  (with_reducible refine (rsubb_any _ k0.bv k1.bv G0.out G1.out).mono ?_)
  rintro e v3 ⟨rr3, rfl, hr3, hb9⟩
  replace hT := hT.trans (hb9.mono hT.size)
  replace ka := ka.below hb9
  replace kb := kb.below hb9
  replace kR := kR.below hb9
  replace k0 := k0.below hb9
  replace k1 := k1.below hb9
  replace k2 := k2.below hb9
  rw [(fits G3.out).1]
  rw [(fits G3.out).2] at hr3
  obtain ⟨x3, X3, y3, Y3, rfl⟩ := hr3.form
  obtain ⟨W4, hW, hbx, k3⟩ := box1 hr3
  have k2w := k2.below hbx
  have zk30 := k3.c0
  have zk31 := k3.c1
  have zk20 := k2w.c0
  have zk21 := k2w.c1
  rw [hW] at zk30 zk31 zk20 zk21
  go_wp2_with fail
  clear zk30 zk31 zk20 zk21 k2w
  rw [← hW]
  clear hW
  replace hT := hT.trans (hbx.mono hT.size)
  replace ka := ka.below hbx
  replace kb := kb.below hbx
  replace kR := kR.below hbx
  replace k0 := k0.below hbx
  replace k1 := k1.below hbx
  replace k2 := k2.below hbx
  clear hr3
  have hlt := kR.blk.lt
  (with_reducible refine (rmade_ok _ _ _ _ _ _ _ _ _ _ _ k3.bv k2.bv G3.out G2.out).mono ?_)
  rintro e u3 ⟨rr, rfl, hrr, hb9⟩
  replace hT := hT.trans (hb9.mono hT.size)
  replace kR := kR.below hb9
  clear ka kb k0 k1 k2 k3
  rw [HP.out, HQ.out] at hrr
  rw [HE.out]
  obtain ⟨t1, C1, m1, e1, t2, C2, m2, e2, rfl, g1, g2⟩ := hrr
  have gR : w.heap.size ≤ w.heap.size + 1 + 1 := by omega
  have r0 := kR.blk.cell 0
  have r1 := kR.blk.cell 1
  have r2 := kR.blk.cell 2
  have r3 := kR.blk.cell 3
  have q0' := kR.blk.frozen 0
  have q1' := kR.blk.frozen 1
  have q2' := kR.blk.frozen 2
  have q3' := kR.blk.frozen 3
  simp at r0 r1 r2 r3
  have hbs := kR.blk.set4 (.int .i64 t1) (.slice C1 m1 e1) (.int .i64 t2) (.slice C2 m2 e2)
  have x0 := hbs.cell 0
  have x1 := hbs.cell 1
  have x2 := hbs.cell 2
  have x3 := hbs.cell 3
  simp at x0 x1 x2 x3
  go_wp2_with fail
  refine bodyPost_ret (v := .tuple #[.agg #[.int .i64 t1, .slice C1 m1 e1, .int .i64 t2, .slice C2 m2 e2], .int .i64 E]) (by simp [results, Tryz.results27, go_sem, x0, x1, x2, x3]) rfl ?_
  exact ⟨_, rfl, FO.mk2 ((g1.far4 hlt _ _ _ _).mono (by omega)) ((g2.far4 hlt _ _ _ _).mono (by omega)), below_st4 hT gR _ _ _ _⟩

end Go.Proofs.YtgpmmpajnfbecaaGreat
