/- Walks: the reference's New of fractions. Printed by a program (rfnew.py). Walks: Of of fractions, and the laws' own. Printed by a program. Walks: the reference's made and Of of fractions. Printed by a program (rfops.py). -/
import Derived.Test.YtkjpfnbdlbnbkaaGreatDoorXbb
import Derived.Test.YtkjpfnbdlbnbkaaGreatDoorXaz
import Derived.Test.YtkjpfnbdlbnbkaaGreatDoorXba
import Derived.Test.YtkjpfnbdlbnbkaaGreatDoorXan

namespace Go.Proofs.YtkjpfnbdlbnbkaaGreatDoor
open Go.RowKit

set_option maxRecDepth 100000 in
set_option maxHeartbeats 8000000 in
theorem rnew_pos (s1 s2 : Int) (A1 A2 : Option Addr) (n1 d1 n2 d2 : Nat) (p q : Int) (w : World) (h1 : BV w w.heap.size (.agg #[.int .i64 s1, .slice A1 n1 d1]) p) (h2 : BV w w.heap.size (.agg #[.int .i64 s2, .slice A2 n2 d2]) q) (hp : ab p < pw 60) (hq : ab q < pw 60) (hq0 : 0 < q) :
    Calls Tryz.prog 49 #[.agg #[.int .i64 s1, .slice A1 n1 d1], .agg #[.int .i64 s2, .slice A2 n2 d2]] w fun e w' => ∃ r, e = .returned (.tuple #[r, .int .i64 0]) ∧ FO w' w.heap.size r (Rat.divInt p q).num (((Rat.divInt p q).den : Nat) : Int) ∧ Below w.heap.size w w' := by
  have HKp := Lib.hid hp; clear hp
  have HKq := Lib.hid hq; clear hq
  have HQ0 := Lib.hid hq0; clear hq0
  have nbq_p := Nb.low h2 (Nat.le_refl _)
  go_enter Tryz.func49, Tryz.ntmps49
  go_wp2_with fail
  obtain ⟨W0, hW, hbx, kp, kq, kR⟩ := nboxes h1 h2
  rw [← hW]
  clear hW h1 h2
  have hT := hbx
  have hs2 : s2 = 1 := by rw [kq.sg]; exact sgn_pos HQ0.out
  subst hs2
  have kp0 := kp.c0
  have kp1 := kp.c1
  go_wp2_with fail
  clear kp0 kp1
  (with_reducible refine (rRight_yes kp.bv HKp.out).mono ?_)
  rintro e u1 ⟨rfl, hb9⟩
  have hT := hT.trans (hb9.mono hT.size)
  have kp := kp.below hb9
  have kq := kq.below hb9
  have kR := kR.below hb9
  have kq0 := kq.c0
  have kq1 := kq.c1
  go_wp2_with fail
  clear kq0 kq1
  (with_reducible refine (rRight_yes kq.bv HKq.out).mono ?_)
  rintro e u2 ⟨rfl, hb9⟩
  have hT := hT.trans (hb9.mono hT.size)
  have kp := kp.below hb9
  have kq := kq.below hb9
  have kR := kR.below hb9
  obtain ⟨d, hd⟩ : ∃ d, ((Int.gcd p q : Nat) : Int) = d := ⟨_, rfl⟩
  have hq1 : 0 < q := by have := HQ0.out; omega
  have hdp : 0 < d := by rw [← hd]; exact gcd_pos (.inr (by omega))
  have hkd : ab d < pw 60 := by rw [← hd]; exact gcd_lt HKp.out HKq.out
  have HQ1 := Lib.hid hq1; clear hq1
  have HKd := Lib.hid hkd; clear hkd
  have HDP := Lib.hid hdp; clear hdp
  have HD := Lib.hid hd; clear hd
  have kp0 := kp.c0
  have kp1 := kp.c1
  have kq0 := kq.c0
  have kq1 := kq.c1
  go_wp2_with fail
  clear kp0 kp1 kq0 kq1
  (with_reducible refine (rgcd_any _ kp.bv kq.bv HKp.out HKq.out).mono ?_)
  rintro e u3 ⟨rd, rfl, hrd, hb9⟩
  have hT := hT.trans (hb9.mono hT.size)
  have kp := kp.below hb9
  have kq := kq.below hb9
  have kR := kR.below hb9
  rw [HD.out] at hrd
  obtain ⟨sd, Ad, nd, cd, rfl⟩ := hrd.form
  have kqz := kq.below ((Below.refl _ u3).alloc (Nat.le_refl _) (.cells #[.int .i64 sd, .slice Ad nd cd] 24))
  have kqz0 := kqz.c0
  have kqz1 := kqz.c1
  have kpz := kp.below ((Below.refl _ u3).alloc (Nat.le_refl _) (.cells #[.int .i64 sd, .slice Ad nd cd] 24))
  have kpz0 := kpz.c0
  have kpz1 := kpz.c1
  go_wp2_with fail
  clear kqz0 kqz1
  clear kqz
  clear kpz0 kpz1
  clear kpz
  obtain ⟨Wd, hW, hbx, kd⟩ := box1 hrd
  rw [← hW]
  clear hW
  have hT := hT.trans (hbx.mono hT.size)
  have kp := kp.below hbx
  have kq := kq.below hbx
  have kR := kR.below hbx
  have hdn : d ≠ 0 := by have := HDP.out; omega
  have HDN := Lib.hid hdn; clear hdn
  have hltA := kR.blk.lt
  (with_reducible refine (rdiv_any _ kp.bv kd.bv HKp.out HKd.out HDN.out).mono ?_)
  rintro e u4 ⟨ra, rb, av, bv, rfl, hra, hrb, hqr, hb9⟩
  have hT := hT.trans (hb9.mono hT.size)
  have kp := kp.below hb9
  have kq := kq.below hb9
  have kR := kR.below hb9
  have kd := kd.below hb9
  have hea : av = (Rat.divInt p q).num := by
    skip
    exact new_num (by have := HQ1.out; omega) (by rw [HD.out]; rw [if_neg (by have := HQ1.out; omega)]; exact hqr)
  clear hqr
  rw [hea] at hra
  clear hea
  obtain ⟨sa, Aa, na, ca, rfl⟩ := hra.form
  obtain ⟨sb, Ab, nb, cb, rfl⟩ := hrb.form
  have owna := hra
  have hBa := hT.size
  have kqz := kq.below (((Below.refl _ u4).alloc (Nat.le_refl _) (.cells #[.int .i64 sa, .slice Aa na ca] 24)).alloc (by simp) (.cells #[.int .i64 sb, .slice Ab nb cb] 24))
  have kqz0 := kqz.c0
  have kqz1 := kqz.c1
  have kdz := kd.below (((Below.refl _ u4).alloc (Nat.le_refl _) (.cells #[.int .i64 sa, .slice Aa na ca] 24)).alloc (by simp) (.cells #[.int .i64 sb, .slice Ab nb cb] 24))
  have kdz0 := kdz.c0
  have kdz1 := kdz.c1
  go_wp2_with fail
  clear kqz0 kqz1
  clear kqz
  clear kdz0 kdz1
  clear kdz
  obtain ⟨Wa, hW, hbx, ka, kb⟩ := box2 hra hrb
  rw [← hW]
  clear hW
  have hT := hT.trans (hbx.mono hT.size)
  have kp := kp.below hbx
  have kq := kq.below hbx
  have kR := kR.below hbx
  have kd := kd.below hbx
  clear kb kp
  have hra := owna.below hbx; clear owna
  have hltM := kR.blk.lt
  (with_reducible refine (rdiv_any _ kq.bv kd.bv HKq.out HKd.out HDN.out).mono ?_)
  rintro e u5 ⟨rm, rn, mv, nv, rfl, hrm, hrn, hqr, hb9⟩
  have hT := hT.trans (hb9.mono hT.size)
  have kq := kq.below hb9
  have kR := kR.below hb9
  have kd := kd.below hb9
  have ka := ka.below hb9
  have hra := hra.below hb9
  have hem : mv = (((Rat.divInt p q).den : Nat) : Int) := by
    skip
    exact new_den (by have := HQ1.out; omega) (by rw [HD.out]; rw [if_neg (by have := HQ1.out; omega)]; exact hqr)
  clear hqr
  rw [hem] at hrm
  clear hem
  obtain ⟨sm, Am, nm, cm, rfl⟩ := hrm.form
  obtain ⟨sn, An, nn, cn, rfl⟩ := hrn.form
  have ownm := hrm
  have own2 := ownm; clear ownm
  obtain ⟨W9, hW, hbx, km, kn⟩ := box2 hrm hrn
  have kaz := ka.below hbx
  have kRz := kR.below hbx
  have hT9 := hT.trans (hbx.mono hT.size)
  have hra9 := hra.below hbx
  have hrm9 := own2.below hbx
  have gR : w.heap.size ≤ w.heap.size + 1 + 1 := by omega
  rw [hW] at kaz kRz km kn hT9 hra9 hrm9
  have z0 := kaz.c0
  have z1 := kaz.c1
  have y0 := km.c0
  have y1 := km.c1
  have r0 := kRz.blk.cell 0
  have r1 := kRz.blk.cell 1
  have r2 := kRz.blk.cell 2
  have r3 := kRz.blk.cell 3
  have q0 := kRz.blk.frozen 0
  have q1 := kRz.blk.frozen 1
  have q2 := kRz.blk.frozen 2
  have q3 := kRz.blk.frozen 3
  simp at r0 r1 r2 r3
  have hbs := kRz.blk.set4 (.int .i64 sa) (.slice Aa na ca) (.int .i64 sm) (.slice Am nm cm)
  have x0 := hbs.cell 0
  have x1 := hbs.cell 1
  have x2 := hbs.cell 2
  have x3 := hbs.cell 3
  simp at x0 x1 x2 x3
  go_wp2_with fail
  refine bodyPost_ret (v := .tuple #[.agg #[.int .i64 sa, .slice Aa na ca, .int .i64 sm, .slice Am nm cm], .int .i64 0]) (by simp [results, Tryz.results49, go_sem, x0, x1, x2, x3]) rfl ?_
  exact ⟨_, rfl, FO.mk2 ((hra9.far4 hltA _ _ _ _).mono (by omega)) ((hrm9.far4 hltM _ _ _ _).mono (by omega)), below_st4 hT9 gR _ _ _ _⟩

set_option maxRecDepth 100000 in
set_option maxHeartbeats 8000000 in
theorem rnew_neg (s1 s2 : Int) (A1 A2 : Option Addr) (n1 d1 n2 d2 : Nat) (p q : Int) (w : World) (h1 : BV w w.heap.size (.agg #[.int .i64 s1, .slice A1 n1 d1]) p) (h2 : BV w w.heap.size (.agg #[.int .i64 s2, .slice A2 n2 d2]) q) (hp : ab p < pw 60) (hq : ab q < pw 60) (hq0 : q < 0) :
    Calls Tryz.prog 49 #[.agg #[.int .i64 s1, .slice A1 n1 d1], .agg #[.int .i64 s2, .slice A2 n2 d2]] w fun e w' => ∃ r, e = .returned (.tuple #[r, .int .i64 0]) ∧ FO w' w.heap.size r (Rat.divInt p q).num (((Rat.divInt p q).den : Nat) : Int) ∧ Below w.heap.size w w' := by
  have HKp := Lib.hid hp; clear hp
  have HKq := Lib.hid hq; clear hq
  have HQ0 := Lib.hid hq0; clear hq0
  have nbq_p := Nb.low h2 (Nat.le_refl _)
  go_enter Tryz.func49, Tryz.ntmps49
  go_wp2_with fail
  obtain ⟨W0, hW, hbx, kp, kq, kR⟩ := nboxes h1 h2
  rw [← hW]
  clear hW h1 h2
  have hT := hbx
  have hs2 : s2 = -1 := by rw [kq.sg]; exact sgn_of_neg HQ0.out
  subst hs2
  have kp0 := kp.c0
  have kp1 := kp.c1
  go_wp2_with fail
  clear kp0 kp1
  (with_reducible refine (rRight_yes kp.bv HKp.out).mono ?_)
  rintro e u1 ⟨rfl, hb9⟩
  have hT := hT.trans (hb9.mono hT.size)
  have kp := kp.below hb9
  have kq := kq.below hb9
  have kR := kR.below hb9
  have kq0 := kq.c0
  have kq1 := kq.c1
  go_wp2_with fail
  clear kq0 kq1
  (with_reducible refine (rRight_yes kq.bv HKq.out).mono ?_)
  rintro e u2 ⟨rfl, hb9⟩
  have hT := hT.trans (hb9.mono hT.size)
  have kp := kp.below hb9
  have kq := kq.below hb9
  have kR := kR.below hb9
  have kp0 := kp.c0
  have kp1 := kp.c1
  have kq0 := kq.c0
  have kq1 := kq.c1
  go_wp2_with fail
  clear kp0 kp1 kq0 kq1
  have neq_p : w.heap.size + 1 ≠ w.heap.size := by omega
  have nep_q : w.heap.size ≠ w.heap.size + 1 := by omega
  have nbR_p : True := trivial
  have nbR_q : True := trivial
  have neR_p : w.heap.size + 1 + 1 ≠ w.heap.size := by omega
  have neR_q : w.heap.size + 1 + 1 ≠ w.heap.size + 1 := by omega
  have gep : w.heap.size ≤ w.heap.size := Nat.le_refl _
  have geq : w.heap.size ≤ w.heap.size + 1 := Nat.le_succ _
  have ltp := kp.blk.lt
  have ltq := kq.blk.lt
  (with_reducible refine (rneg_any _ kp.bv HKp.out).mono ?_)
  rintro e u3 ⟨rv, rfl, hrv, hb9⟩
  have hT := hT.trans (hb9.mono hT.size)
  have kp := kp.below hb9
  have kq := kq.below hb9
  have kR := kR.below hb9
  have HKv : Hid (ab (-p) < pw 60) := Lib.hid (by rw [ab_neg]; exact HKp.out)
  obtain ⟨sv, Av, nv, cv, rfl⟩ := hrv.form
  have nbv_p := Nb.high hrv ltp
  have nbv_q := Nb.high hrv ltq
  have t0 := kp.c0
  have t1 := kp.c1
  have f0 := kp.blk.frozen 0
  have f1 := kp.blk.frozen 1
  have kqz := kq.set2 neq_p nbq_p (.int .i64 sv) (.slice Av nv cv)
  have kRz := kR.set2 neR_p nbR_p (.int .i64 sv) (.slice Av nv cv)
  have kpz := kp.put hrv.bv nbv_p
  have kqz0 := kqz.c0
  have kqz1 := kqz.c1
  go_wp2_with fail
  clear kqz0 kqz1
  clear t0 t1 f0 f1
  have kp := kpz; clear kpz
  have kq := kqz; clear kqz
  have kR := kRz; clear kRz
  have hT := (hT.setCell (p := ⟨_, 0, none⟩) gep (.int .i64 sv)).setCell (p := ⟨_, 1, none⟩) gep (.slice Av nv cv)
  generalize (u3.setCell ⟨w.heap.size, 0, none⟩ (.int .i64 sv)).setCell ⟨w.heap.size, 1, none⟩ (.slice Av nv cv) = Vv at *
  have HKp := HKv
  have nbp_q := nbv_q
  have ltp := kp.blk.lt
  have ltq := kq.blk.lt
  (with_reducible refine (rneg_any _ kq.bv HKq.out).mono ?_)
  rintro e u4 ⟨rz, rfl, hrz, hb9⟩
  have hT := hT.trans (hb9.mono hT.size)
  have kp := kp.below hb9
  have kq := kq.below hb9
  have kR := kR.below hb9
  have HKz : Hid (ab (-q) < pw 60) := Lib.hid (by rw [ab_neg]; exact HKq.out)
  obtain ⟨sz, Az, nz, cz, rfl⟩ := hrz.form
  have nbz_p := Nb.high hrz ltp
  have nbz_q := Nb.high hrz ltq
  have t0 := kq.c0
  have t1 := kq.c1
  have f0 := kq.blk.frozen 0
  have f1 := kq.blk.frozen 1
  have kpz := kp.set2 nep_q nbp_q (.int .i64 sz) (.slice Az nz cz)
  have kRz := kR.set2 neR_q nbR_q (.int .i64 sz) (.slice Az nz cz)
  have kqz := kq.put hrz.bv nbz_q
  have kpz0 := kpz.c0
  have kpz1 := kpz.c1
  have kqz0 := kqz.c0
  have kqz1 := kqz.c1
  go_wp2_with fail
  clear kpz0 kpz1
  clear kqz0 kqz1
  clear t0 t1 f0 f1
  have kp := kpz; clear kpz
  have kq := kqz; clear kqz
  have kR := kRz; clear kRz
  have hT := (hT.setCell (p := ⟨_, 0, none⟩) geq (.int .i64 sz)).setCell (p := ⟨_, 1, none⟩) geq (.slice Az nz cz)
  generalize (u4.setCell ⟨w.heap.size + 1, 0, none⟩ (.int .i64 sz)).setCell ⟨w.heap.size + 1, 1, none⟩ (.slice Az nz cz) = Vz at *
  have HKq := HKz
  have nbq_p := nbz_p
  obtain ⟨d, hd⟩ : ∃ d, ((Int.gcd (-p) (-q) : Nat) : Int) = d := ⟨_, rfl⟩
  have hq1 : 0 < (-q) := by have := HQ0.out; omega
  have hdp : 0 < d := by rw [← hd]; exact gcd_pos (.inr (by omega))
  have hkd : ab d < pw 60 := by rw [← hd]; exact gcd_lt HKp.out HKq.out
  have HQ1 := Lib.hid hq1; clear hq1
  have HKd := Lib.hid hkd; clear hkd
  have HDP := Lib.hid hdp; clear hdp
  have HD := Lib.hid hd; clear hd
  (with_reducible refine (rgcd_any _ kp.bv kq.bv HKp.out HKq.out).mono ?_)
  rintro e u5 ⟨rd, rfl, hrd, hb9⟩
  have hT := hT.trans (hb9.mono hT.size)
  have kp := kp.below hb9
  have kq := kq.below hb9
  have kR := kR.below hb9
  rw [HD.out] at hrd
  obtain ⟨sd, Ad, nd, cd, rfl⟩ := hrd.form
  have kqz := kq.below ((Below.refl _ u5).alloc (Nat.le_refl _) (.cells #[.int .i64 sd, .slice Ad nd cd] 24))
  have kqz0 := kqz.c0
  have kqz1 := kqz.c1
  have kpz := kp.below ((Below.refl _ u5).alloc (Nat.le_refl _) (.cells #[.int .i64 sd, .slice Ad nd cd] 24))
  have kpz0 := kpz.c0
  have kpz1 := kpz.c1
  go_wp2_with fail
  clear kqz0 kqz1
  clear kqz
  clear kpz0 kpz1
  clear kpz
  obtain ⟨Wd, hW, hbx, kd⟩ := box1 hrd
  rw [← hW]
  clear hW
  have hT := hT.trans (hbx.mono hT.size)
  have kp := kp.below hbx
  have kq := kq.below hbx
  have kR := kR.below hbx
  have hdn : d ≠ 0 := by have := HDP.out; omega
  have HDN := Lib.hid hdn; clear hdn
  have hltA := kR.blk.lt
  (with_reducible refine (rdiv_any _ kp.bv kd.bv HKp.out HKd.out HDN.out).mono ?_)
  rintro e u6 ⟨ra, rb, av, bv, rfl, hra, hrb, hqr, hb9⟩
  have hT := hT.trans (hb9.mono hT.size)
  have kp := kp.below hb9
  have kq := kq.below hb9
  have kR := kR.below hb9
  have kd := kd.below hb9
  have hea : av = (Rat.divInt p q).num := by
    rw [← Rat.neg_divInt_neg]
    exact new_num (by have := HQ1.out; omega) (by rw [HD.out]; rw [if_neg (by have := HQ1.out; omega)]; exact hqr)
  clear hqr
  rw [hea] at hra
  clear hea
  obtain ⟨sa, Aa, na, ca, rfl⟩ := hra.form
  obtain ⟨sb, Ab, nb, cb, rfl⟩ := hrb.form
  have owna := hra
  have hBa := hT.size
  have kqz := kq.below (((Below.refl _ u6).alloc (Nat.le_refl _) (.cells #[.int .i64 sa, .slice Aa na ca] 24)).alloc (by simp) (.cells #[.int .i64 sb, .slice Ab nb cb] 24))
  have kqz0 := kqz.c0
  have kqz1 := kqz.c1
  have kdz := kd.below (((Below.refl _ u6).alloc (Nat.le_refl _) (.cells #[.int .i64 sa, .slice Aa na ca] 24)).alloc (by simp) (.cells #[.int .i64 sb, .slice Ab nb cb] 24))
  have kdz0 := kdz.c0
  have kdz1 := kdz.c1
  go_wp2_with fail
  clear kqz0 kqz1
  clear kqz
  clear kdz0 kdz1
  clear kdz
  obtain ⟨Wa, hW, hbx, ka, kb⟩ := box2 hra hrb
  rw [← hW]
  clear hW
  have hT := hT.trans (hbx.mono hT.size)
  have kp := kp.below hbx
  have kq := kq.below hbx
  have kR := kR.below hbx
  have kd := kd.below hbx
  clear kb kp
  have hra := owna.below hbx; clear owna
  have hltM := kR.blk.lt
  (with_reducible refine (rdiv_any _ kq.bv kd.bv HKq.out HKd.out HDN.out).mono ?_)
  rintro e u7 ⟨rm, rn, mv, nv, rfl, hrm, hrn, hqr, hb9⟩
  have hT := hT.trans (hb9.mono hT.size)
  have kq := kq.below hb9
  have kR := kR.below hb9
  have kd := kd.below hb9
  have ka := ka.below hb9
  have hra := hra.below hb9
  have hem : mv = (((Rat.divInt p q).den : Nat) : Int) := by
    rw [← Rat.neg_divInt_neg]
    exact new_den (by have := HQ1.out; omega) (by rw [HD.out]; rw [if_neg (by have := HQ1.out; omega)]; exact hqr)
  clear hqr
  rw [hem] at hrm
  clear hem
  obtain ⟨sm, Am, nm, cm, rfl⟩ := hrm.form
  obtain ⟨sn, An, nn, cn, rfl⟩ := hrn.form
  have ownm := hrm
  have own2 := ownm; clear ownm
  obtain ⟨W9, hW, hbx, km, kn⟩ := box2 hrm hrn
  have kaz := ka.below hbx
  have kRz := kR.below hbx
  have hT9 := hT.trans (hbx.mono hT.size)
  have hra9 := hra.below hbx
  have hrm9 := own2.below hbx
  have gR : w.heap.size ≤ w.heap.size + 1 + 1 := by omega
  rw [hW] at kaz kRz km kn hT9 hra9 hrm9
  have z0 := kaz.c0
  have z1 := kaz.c1
  have y0 := km.c0
  have y1 := km.c1
  have r0 := kRz.blk.cell 0
  have r1 := kRz.blk.cell 1
  have r2 := kRz.blk.cell 2
  have r3 := kRz.blk.cell 3
  have q0 := kRz.blk.frozen 0
  have q1 := kRz.blk.frozen 1
  have q2 := kRz.blk.frozen 2
  have q3 := kRz.blk.frozen 3
  simp at r0 r1 r2 r3
  have hbs := kRz.blk.set4 (.int .i64 sa) (.slice Aa na ca) (.int .i64 sm) (.slice Am nm cm)
  have x0 := hbs.cell 0
  have x1 := hbs.cell 1
  have x2 := hbs.cell 2
  have x3 := hbs.cell 3
  simp at x0 x1 x2 x3
  go_wp2_with fail
  refine bodyPost_ret (v := .tuple #[.agg #[.int .i64 sa, .slice Aa na ca, .int .i64 sm, .slice Am nm cm], .int .i64 0]) (by simp [results, Tryz.results49, go_sem, x0, x1, x2, x3]) rfl ?_
  exact ⟨_, rfl, FO.mk2 ((hra9.far4 hltA _ _ _ _).mono (by omega)) ((hrm9.far4 hltM _ _ _ _).mono (by omega)), below_st4 hT9 gR _ _ _ _⟩


set_option maxRecDepth 100000 in
set_option maxHeartbeats 4000000 in
theorem rnew_zero (s1 s2 : Int) (A1 A2 : Option Addr) (n1 d1 n2 d2 : Nat) (p : Int) (w : World) (h1 : BV w w.heap.size (.agg #[.int .i64 s1, .slice A1 n1 d1]) p) (h2 : BV w w.heap.size (.agg #[.int .i64 s2, .slice A2 n2 d2]) 0) (hp : ab p < pw 60) :
    Calls Tryz.prog 49 #[.agg #[.int .i64 s1, .slice A1 n1 d1], .agg #[.int .i64 s2, .slice A2 n2 d2]] w fun e w' => e = .returned (.tuple #[.agg #[.int .i64 0, .slice none 0 0, .int .i64 0, .slice none 0 0], .int .i64 15]) ∧ Below w.heap.size w w' := by
  have HKp := Lib.hid hp; clear hp
  have hz : ab (0 : Int) < pw 60 := by rw [ab_zero]; exact pw_pos 60
  have HKq := Lib.hid hz; clear hz
  go_enter Tryz.func49, Tryz.ntmps49
  go_wp2_with fail
  obtain ⟨W0, hW, hbx, kp, kq, kR⟩ := nboxes h1 h2
  rw [← hW]
  clear hW h1 h2
  have hT := hbx
  have hs2 : s2 = 0 := kq.s0
  subst hs2
  have p0 := kp.c0
  have p1 := kp.c1
  go_wp2_with fail
  clear p0 p1
  (with_reducible refine (rRight_yes kp.bv HKp.out).mono ?_)
  rintro e u1 ⟨rfl, hb9⟩
  replace hT := hT.trans (hb9.mono hT.size)
  replace kq := kq.below hb9
  replace kR := kR.below hb9
  have p0 := kq.c0
  have p1 := kq.c1
  go_wp2_with fail
  clear p0 p1
  (with_reducible refine (rRight_yes kq.bv HKq.out).mono ?_)
  rintro e u2 ⟨rfl, hb9⟩
  replace hT := hT.trans (hb9.mono hT.size)
  replace kq := kq.below hb9
  replace kR := kR.below hb9
  have hkR := kR.blk
  have qq0 := kq.c0
  have r0 := hkR.cell 0
  have r1 := hkR.cell 1
  have r2 := hkR.cell 2
  have r3 := hkR.cell 3
  have q0' := hkR.frozen 0
  have q1' := hkR.frozen 1
  have q2' := hkR.frozen 2
  have q3' := hkR.frozen 3
  simp at r0 r1 r2 r3
  have hbs := hkR.set4 (.int .i64 0) (.slice none 0 0) (.int .i64 0) (.slice none 0 0)
  have x0 := hbs.cell 0
  have x1 := hbs.cell 1
  have x2 := hbs.cell 2
  have x3 := hbs.cell 3
  simp at x0 x1 x2 x3
  have gR : w.heap.size ≤ w.heap.size + 1 + 1 := by omega
  go_wp2_with fail
  refine bodyPost_ret (v := .tuple #[.agg #[.int .i64 0, .slice none 0 0, .int .i64 0, .slice none 0 0], .int .i64 15]) (by simp [results, Tryz.results49, go_sem, x0, x1, x2, x3]) rfl ?_
  exact ⟨rfl, below_st4 hT gR _ _ _ _⟩


set_option maxRecDepth 100000 in
set_option maxHeartbeats 4000000 in
theorem rnew_bad {s1 s2 : Int} {l1 l2 : List Int} {A1 A2 : Option Addr} {n1 d1 n2 d2 : Nat} (w : World) (h1 : Ar w s1 l1 A1 n1 d1) (h2 : Ar w s2 l2 A2 n2 d2) (hb : ¬ (RightP s1 l1 ∧ RightP s2 l2)) :
    Calls Tryz.prog 49 #[.agg #[.int .i64 s1, .slice A1 n1 d1], .agg #[.int .i64 s2, .slice A2 n2 d2]] w fun e w' => e = .returned (.tuple #[.agg #[.int .i64 0, .slice none 0 0, .int .i64 0, .slice none 0 0], .int .i64 1]) ∧ Below w.heap.size w w' := by
  have H1 := Lib.hid h1
  have H2 := Lib.hid h2
  go_enter Tryz.func49, Tryz.ntmps49
  go_wp2_with fail
  obtain ⟨W1, hW1, hbx1, k1, k2⟩ := abox2 h1 h2
  obtain ⟨W0, hW⟩ : ∃ W, W = W1.alloc (.cells #[.int .i64 0, .slice none 0 0, .int .i64 0, .slice none 0 0] 43) := ⟨_, rfl⟩
  have hs : W1.heap.size = w.heap.size + 1 + 1 := by rw [hW1]; simp
  have hT : Below w.heap.size w W0 := by rw [hW]; exact hbx1.alloc hbx1.size _
  have ha1 : Blk W0 w.heap.size 24 #[.int .i64 s1, .slice A1 n1 d1] := by rw [hW]; exact k1.blk.alloc _
  have ha2 : Blk W0 (w.heap.size + 1) 24 #[.int .i64 s2, .slice A2 n2 d2] := by rw [hW]; exact k2.blk.alloc _
  have hkR : Blk W0 (w.heap.size + 1 + 1) 43 #[.int .i64 0, .slice none 0 0, .int .i64 0, .slice none 0 0] := by rw [hW, ← hs]; exact Blk.new _ _ _
  rw [hW1] at hW
  rw [← hW]
  clear hW hW1 k1 k2 hbx1 h1 h2 hs
  have p0 : W0.cell? ⟨w.heap.size, 0, none⟩ = some (.int .i64 s1) := ha1.cell 0
  have p1 : W0.cell? ⟨w.heap.size, 1, none⟩ = some (.slice A1 n1 d1) := ha1.cell 1
  go_wp2_with fail
  clear p0 p1
  by_cases hr1 : RightP s1 l1
  rotate_left
  · refine (rRight_any s1 l1 A1 n1 d1 _ (H1.out.later hT) false (by simp [hr1])).mono ?_
    rintro e u1 ⟨rfl, hb9⟩
    replace hT := hT.trans (hb9.mono hT.size)
    replace hkR := hkR.below hb9 hkR.lt
    have r0 := hkR.cell 0
    have r1 := hkR.cell 1
    have r2 := hkR.cell 2
    have r3 := hkR.cell 3
    have q0' := hkR.frozen 0
    have q1' := hkR.frozen 1
    have q2' := hkR.frozen 2
    have q3' := hkR.frozen 3
    simp at r0 r1 r2 r3
    have hbs := hkR.set4 (.int .i64 0) (.slice none 0 0) (.int .i64 0) (.slice none 0 0)
    have x0 := hbs.cell 0
    have x1 := hbs.cell 1
    have x2 := hbs.cell 2
    have x3 := hbs.cell 3
    simp at x0 x1 x2 x3
    have gR : w.heap.size ≤ w.heap.size + 1 + 1 := by omega
    go_wp2_with fail
    refine bodyPost_ret (v := .tuple #[.agg #[.int .i64 0, .slice none 0 0, .int .i64 0, .slice none 0 0], .int .i64 1]) (by simp [results, Tryz.results49, go_sem, x0, x1, x2, x3]) rfl ?_
    exact ⟨rfl, below_st4 hT gR _ _ _ _⟩
  have hr2 : ¬ RightP s2 l2 := fun h => hb ⟨hr1, h⟩
  refine (rRight_any s1 l1 A1 n1 d1 _ (H1.out.later hT) true (by simp [hr1])).mono ?_
  rintro e u1 ⟨rfl, hb9⟩
  replace hT := hT.trans (hb9.mono hT.size)
  replace hkR := hkR.below hb9 hkR.lt
  replace ha2 := ha2.below hb9 ha2.lt
  have p0 : u1.cell? ⟨w.heap.size + 1, 0, none⟩ = some (.int .i64 s2) := ha2.cell 0
  have p1 : u1.cell? ⟨w.heap.size + 1, 1, none⟩ = some (.slice A2 n2 d2) := ha2.cell 1
  go_wp2_with fail
  clear p0 p1
  refine (rRight_any s2 l2 A2 n2 d2 _ (H2.out.later hT) false (by simp [hr2])).mono ?_
  rintro e u2 ⟨rfl, hb9⟩
  replace hT := hT.trans (hb9.mono hT.size)
  replace hkR := hkR.below hb9 hkR.lt
  have r0 := hkR.cell 0
  have r1 := hkR.cell 1
  have r2 := hkR.cell 2
  have r3 := hkR.cell 3
  have q0' := hkR.frozen 0
  have q1' := hkR.frozen 1
  have q2' := hkR.frozen 2
  have q3' := hkR.frozen 3
  simp at r0 r1 r2 r3
  have hbs := hkR.set4 (.int .i64 0) (.slice none 0 0) (.int .i64 0) (.slice none 0 0)
  have x0 := hbs.cell 0
  have x1 := hbs.cell 1
  have x2 := hbs.cell 2
  have x3 := hbs.cell 3
  simp at x0 x1 x2 x3
  have gR : w.heap.size ≤ w.heap.size + 1 + 1 := by omega
  go_wp2_with fail
  refine bodyPost_ret (v := .tuple #[.agg #[.int .i64 0, .slice none 0 0, .int .i64 0, .slice none 0 0], .int .i64 1]) (by simp [results, Tryz.results49, go_sem, x0, x1, x2, x3]) rfl ?_
  exact ⟨rfl, below_st4 hT gR _ _ _ _⟩

theorem rnew_any (s1 s2 : Int) (A1 A2 : Option Addr) (n1 d1 n2 d2 : Nat) (p q : Int) (w : World) (h1 : BV w w.heap.size (.agg #[.int .i64 s1, .slice A1 n1 d1]) p) (h2 : BV w w.heap.size (.agg #[.int .i64 s2, .slice A2 n2 d2]) q) (hp : ab p < pw 60) (hq : ab q < pw 60) :
    Calls Tryz.prog 49 #[.agg #[.int .i64 s1, .slice A1 n1 d1], .agg #[.int .i64 s2, .slice A2 n2 d2]] w (NewP p q w) := by
  unfold NewP newE newN newD
  rcases Int.lt_trichotomy q 0 with h | h | h
  · rw [if_neg (by omega), if_neg (by omega), if_neg (by omega)]
    exact rnew_neg s1 s2 A1 A2 n1 d1 n2 d2 p q w h1 h2 hp hq h
  · subst h
    rw [if_pos rfl, if_pos rfl, if_pos rfl]
    exact (rnew_zero s1 s2 A1 A2 n1 d1 n2 d2 p w h1 h2 hp).mono fun e w' ⟨he, hb⟩ => ⟨_, he, FO.zero _ _, hb⟩
  · rw [if_neg (by omega), if_neg (by omega), if_neg (by omega)]
    exact rnew_pos s1 s2 A1 A2 n1 d1 n2 d2 p q w h1 h2 hp hq h

end Go.Proofs.YtkjpfnbdlbnbkaaGreatDoor

namespace Go.Proofs.YtkjpfnbdlbnbkaaGreatDoor
open Go.RowKit

set_option maxRecDepth 100000 in
set_option maxHeartbeats 8000000 in
theorem fof_any (p q : Int) (w : World) (hp : isI p) (hq : isI q) : Calls Tryz.prog 44 #[.int .i64 p, .int .i64 q] w (NewP p q w) := by
  have H1 := Lib.hid hp; clear hp
  have H2 := Lib.hid hq; clear hq
  unfold NewP
  obtain ⟨E, hE⟩ : ∃ E, newE q = E := ⟨_, rfl⟩
  obtain ⟨P, hP⟩ : ∃ E, newN p q = E := ⟨_, rfl⟩
  obtain ⟨Q, hQ⟩ : ∃ E, newD p q = E := ⟨_, rfl⟩
  rw [hE, hP, hQ]
  have HE := Lib.hid hE; clear hE
  have HP := Lib.hid hP; clear hP
  have HQ := Lib.hid hQ; clear hQ
  go_enter Tryz.func44, Tryz.ntmps44
  go_wp2_with fail
  obtain ⟨W0, hW⟩ : ∃ W, W = w.alloc (.cells #[.int .i64 0, .slice none 0 0, .int .i64 0, .slice none 0 0] 43) := ⟨_, rfl⟩
  have hT : Below w.heap.size w W0 := by rw [hW]; exact (Below.refl _ _).alloc (Nat.le_refl _) _
  have kR : Bz W0 w.heap.size (.int .i64 0) (.slice none 0 0) (.int .i64 0) (.slice none 0 0) := ⟨by rw [hW]; exact Blk.new _ _ _⟩
  rw [← hW]
  clear hW
  (with_reducible refine (of_any _ _ H1.out.lo H1.out.hi).mono ?_)
  rintro e u1 ⟨r1, rfl, hr1, hb1⟩
  have hT := hT.trans (hb1.mono hT.size)
  have kR := kR.below hb1
  obtain ⟨s1, A1, n1, c1, rfl⟩ := hr1.form
  go_wp2_with fail
  (with_reducible refine (of_any _ _ H2.out.lo H2.out.hi).mono ?_)
  rintro e u2 ⟨r2, rfl, hr2, hb2⟩
  have hT := hT.trans (hb2.mono hT.size)
  have kR := kR.below hb2
  have hv1 := hr1.bv.later hb2
  obtain ⟨s2, A2, n2, c2, rfl⟩ := hr2.form
  go_wp2_with fail
  have hlt := kR.blk.lt
  (with_reducible refine (new_any _ _ _ _ _ _ _ _ _ _ _ hv1 hr2.bv H1.out.lt H2.out.lt).mono ?_)
  rintro e u3 ⟨rr, rfl, hrr, hb9⟩
  have hT := hT.trans (hb9.mono hT.size)
  have kR := kR.below hb9
  clear hr1 hr2 hv1
  rw [HP.out, HQ.out] at hrr
  rw [HE.out]
  obtain ⟨t1, C1, m1, e1, t2, C2, m2, e2, rfl, g1, g2⟩ := hrr
  have gR : w.heap.size ≤ w.heap.size := Nat.le_refl _
  have r0 := kR.blk.cell 0
  have r1 := kR.blk.cell 1
  have r2 := kR.blk.cell 2
  have r3 := kR.blk.cell 3
  have q0' := kR.blk.frozen 0
  have q1' := kR.blk.frozen 1
  have q2' := kR.blk.frozen 2
  have q3' := kR.blk.frozen 3
  simp at r0 r1 r2 r3
  have hbs := kR.blk.set4 (.int .i64 t1) (.slice C1 m1 e1) (.int .i64 t2) (.slice C2 m2 e2)
  have x0 := hbs.cell 0
  have x1 := hbs.cell 1
  have x2 := hbs.cell 2
  have x3 := hbs.cell 3
  simp at x0 x1 x2 x3
  go_wp2_with fail
  refine bodyPost_ret (v := .tuple #[.agg #[.int .i64 t1, .slice C1 m1 e1, .int .i64 t2, .slice C2 m2 e2], .int .i64 E]) (by simp [results, Tryz.results44, go_sem, x0, x1, x2, x3]) rfl ?_
  exact ⟨_, rfl, FO.mk2 ((g1.far4 hlt _ _ _ _).mono (by omega)) ((g2.far4 hlt _ _ _ _).mono (by omega)), below_st4 hT gR _ _ _ _⟩

set_option maxRecDepth 100000 in
set_option maxHeartbeats 8000000 in
theorem lof_any (p q : Int) (w : World) (hp : isI p) (hq : isI q) : Calls Tryz.prog 91 #[.int .i64 p, .int .i64 q] w fun e w' => ∃ r, e = .returned r ∧ FO w' w.heap.size r (newN p q) (newD p q) ∧ Below w.heap.size w w' := by
  have H1 := Lib.hid hp; clear hp
  have H2 := Lib.hid hq; clear hq
  obtain ⟨E, hE⟩ : ∃ E, newE q = E := ⟨_, rfl⟩
  obtain ⟨P, hP⟩ : ∃ E, newN p q = E := ⟨_, rfl⟩
  obtain ⟨Q, hQ⟩ : ∃ E, newD p q = E := ⟨_, rfl⟩
  rw [hP, hQ]
  have HE := Lib.hid hE; clear hE
  have HP := Lib.hid hP; clear hP
  have HQ := Lib.hid hQ; clear hQ
  go_enter Tryz.func91, Tryz.ntmps91
  go_wp2_with fail
  obtain ⟨W0, hW⟩ : ∃ W, W = w.alloc (.cells #[.int .i64 0, .slice none 0 0, .int .i64 0, .slice none 0 0] 43) := ⟨_, rfl⟩
  have hT : Below w.heap.size w W0 := by rw [hW]; exact (Below.refl _ _).alloc (Nat.le_refl _) _
  have kR : Bz W0 w.heap.size (.int .i64 0) (.slice none 0 0) (.int .i64 0) (.slice none 0 0) := ⟨by rw [hW]; exact Blk.new _ _ _⟩
  rw [← hW]
  clear hW
  have hlt := kR.blk.lt
  (with_reducible refine (fof_any _ _ _ H1.out H2.out).mono ?_)
  rintro e u3 ⟨rr, rfl, hrr, hb9⟩
  have hT := hT.trans (hb9.mono hT.size)
  have kR := kR.below hb9
  rw [HP.out, HQ.out] at hrr
  rw [HE.out]
  obtain ⟨t1, C1, m1, e1, t2, C2, m2, e2, rfl, g1, g2⟩ := hrr
  have hbn := (Below.refl u3.heap.size u3).alloc (Nat.le_refl _) (.cells #[.int .i64 t1, .slice C1 m1 e1, .int .i64 t2, .slice C2 m2 e2] 43)
  have g1 := g1.below hbn
  have g2 := g2.below hbn
  have kR := kR.below hbn
  have hT := hT.trans (hbn.mono hT.size)
  have gR : w.heap.size ≤ w.heap.size := Nat.le_refl _
  have r0 := kR.blk.cell 0
  have r1 := kR.blk.cell 1
  have r2 := kR.blk.cell 2
  have r3 := kR.blk.cell 3
  have q0' := kR.blk.frozen 0
  have q1' := kR.blk.frozen 1
  have q2' := kR.blk.frozen 2
  have q3' := kR.blk.frozen 3
  simp at r0 r1 r2 r3
  have hbs := kR.blk.set4 (.int .i64 t1) (.slice C1 m1 e1) (.int .i64 t2) (.slice C2 m2 e2)
  have x0 := hbs.cell 0
  have x1 := hbs.cell 1
  have x2 := hbs.cell 2
  have x3 := hbs.cell 3
  simp at x0 x1 x2 x3
  go_wp2_with fail
  refine bodyPost_ret (v := .agg #[.int .i64 t1, .slice C1 m1 e1, .int .i64 t2, .slice C2 m2 e2]) (by simp [results, Tryz.results91, go_sem, x0, x1, x2, x3]) rfl ?_
  exact ⟨_, rfl, FO.mk2 ((g1.far4 hlt _ _ _ _).mono (by omega)) ((g2.far4 hlt _ _ _ _).mono (by omega)), below_st4 hT gR _ _ _ _⟩

end Go.Proofs.YtkjpfnbdlbnbkaaGreatDoor

namespace Go.Proofs.YtkjpfnbdlbnbkaaGreatDoor
open Go.RowKit

theorem rfright_yes {s1 s2 : Int} {A1 A2 : Option Addr} {n1 d1 n2 d2 : Nat} {p q : Int} (w : World) (h : FV w w.heap.size s1 A1 n1 d1 s2 A2 n2 d2 p q) (hp : ab p < pw 60) (hq : ab q < pw 60) (hf : FR p q) :
    Calls Tryz.prog 51 #[.agg #[.int .i64 s1, .slice A1 n1 d1, .int .i64 s2, .slice A2 n2 d2]] w fun e w' => e = .returned (.bool true) ∧ Below w.heap.size w w' :=
  rfright_any w (bv_ar h.a) (bv_ar h.b) true ⟨fun _ => ⟨p, q, ⟨(bv_sv h.a).2.1, rfl, hp⟩, ⟨(bv_sv h.b).2.1, rfl, hq⟩, hf⟩, fun _ => rfl⟩

set_option maxRecDepth 100000 in
set_option maxHeartbeats 8000000 in
theorem rmade_bad (s1 s2 : Int) (A1 A2 : Option Addr) (n1 d1 n2 d2 : Nat) (p q : Int) (w : World) (h1 : BV w w.heap.size (.agg #[.int .i64 s1, .slice A1 n1 d1]) p) (h2 : BV w w.heap.size (.agg #[.int .i64 s2, .slice A2 n2 d2]) q) :
    Calls Tryz.prog 93 #[.agg #[.int .i64 s1, .slice A1 n1 d1], .agg #[.int .i64 s2, .slice A2 n2 d2], .bool true] w fun e w' => e = .returned (.tuple #[.agg #[.int .i64 0, .slice none 0 0, .int .i64 0, .slice none 0 0], .int .i64 6]) ∧ Below w.heap.size w w' := by
  go_enter Tryz.func93, Tryz.ntmps93
  go_wp2_with fail
  obtain ⟨W0, hW, hbx, kp, kq, kR⟩ := nboxes h1 h2
  rw [← hW]
  clear hW h1 h2 kp kq
  have r0 := kR.blk.cell 0
  have r1 := kR.blk.cell 1
  have r2 := kR.blk.cell 2
  have r3 := kR.blk.cell 3
  simp at r0 r1 r2 r3
  refine bodyPost_ret (v := .tuple #[.agg #[.int .i64 0, .slice none 0 0, .int .i64 0, .slice none 0 0], .int .i64 6]) (by simp [results, Tryz.results93, go_sem, r0, r1, r2, r3]) rfl ?_
  exact ⟨rfl, hbx⟩

set_option maxRecDepth 100000 in
set_option maxHeartbeats 8000000 in
theorem rmade_ok (s1 s2 : Int) (A1 A2 : Option Addr) (n1 d1 n2 d2 : Nat) (p q : Int) (w : World) (h1 : BV w w.heap.size (.agg #[.int .i64 s1, .slice A1 n1 d1]) p) (h2 : BV w w.heap.size (.agg #[.int .i64 s2, .slice A2 n2 d2]) q) (hp : ab p < pw 60) (hq : ab q < pw 60) :
    Calls Tryz.prog 93 #[.agg #[.int .i64 s1, .slice A1 n1 d1], .agg #[.int .i64 s2, .slice A2 n2 d2], .bool false] w (NewP p q w) := by
  have HKp := Lib.hid hp; clear hp
  have HKq := Lib.hid hq; clear hq
  unfold NewP
  obtain ⟨E, hE⟩ : ∃ E, newE q = E := ⟨_, rfl⟩
  obtain ⟨P, hP⟩ : ∃ E, newN p q = E := ⟨_, rfl⟩
  obtain ⟨Q, hQ⟩ : ∃ E, newD p q = E := ⟨_, rfl⟩
  rw [hE, hP, hQ]
  have HE := Lib.hid hE; clear hE
  have HP := Lib.hid hP; clear hP
  have HQ := Lib.hid hQ; clear hQ
  go_enter Tryz.func93, Tryz.ntmps93
  go_wp2_with fail
  obtain ⟨W0, hW, hbx, kp, kq, kR⟩ := nboxes h1 h2
  rw [← hW]
  clear hW h1 h2
  have hT := hbx
  have p0 := kp.c0
  have p1 := kp.c1
  have q0 := kq.c0
  have q1 := kq.c1
  go_wp2_with fail
  clear p0 p1 q0 q1
  have hlt := kR.blk.lt
  (with_reducible refine (rnew_any _ _ _ _ _ _ _ _ _ _ _ kp.bv kq.bv HKp.out HKq.out).mono ?_)
  rintro e u3 ⟨rr, rfl, hrr, hb9⟩
  have hT := hT.trans (hb9.mono hT.size)
  have kR := kR.below hb9
  clear kp kq
  rw [HP.out, HQ.out] at hrr
  rw [HE.out]
  obtain ⟨t1, C1, m1, e1, t2, C2, m2, e2, rfl, g1, g2⟩ := hrr
  have gR : w.heap.size ≤ w.heap.size + 1 + 1 := by omega
  have r0 := kR.blk.cell 0
  have r1 := kR.blk.cell 1
  have r2 := kR.blk.cell 2
  have r3 := kR.blk.cell 3
  have q0' := kR.blk.frozen 0
  have q1' := kR.blk.frozen 1
  have q2' := kR.blk.frozen 2
  have q3' := kR.blk.frozen 3
  simp at r0 r1 r2 r3
  have hbs := kR.blk.set4 (.int .i64 t1) (.slice C1 m1 e1) (.int .i64 t2) (.slice C2 m2 e2)
  have x0 := hbs.cell 0
  have x1 := hbs.cell 1
  have x2 := hbs.cell 2
  have x3 := hbs.cell 3
  simp at x0 x1 x2 x3
  go_wp2_with fail
  refine bodyPost_ret (v := .tuple #[.agg #[.int .i64 t1, .slice C1 m1 e1, .int .i64 t2, .slice C2 m2 e2], .int .i64 E]) (by simp [results, Tryz.results93, go_sem, x0, x1, x2, x3]) rfl ?_
  exact ⟨_, rfl, FO.mk2 ((g1.far4 hlt _ _ _ _).mono (by omega)) ((g2.far4 hlt _ _ _ _).mono (by omega)), below_st4 hT gR _ _ _ _⟩

set_option maxRecDepth 100000 in
set_option maxHeartbeats 8000000 in
theorem rfof_any (p q : Int) (w : World) (hp : isI p) (hq : isI q) : Calls Tryz.prog 45 #[.int .i64 p, .int .i64 q] w (NewP p q w) := by
  have H1 := Lib.hid hp; clear hp
  have H2 := Lib.hid hq; clear hq
  unfold NewP
  obtain ⟨E, hE⟩ : ∃ E, newE q = E := ⟨_, rfl⟩
  obtain ⟨P, hP⟩ : ∃ E, newN p q = E := ⟨_, rfl⟩
  obtain ⟨Q, hQ⟩ : ∃ E, newD p q = E := ⟨_, rfl⟩
  rw [hE, hP, hQ]
  have HE := Lib.hid hE; clear hE
  have HP := Lib.hid hP; clear hP
  have HQ := Lib.hid hQ; clear hQ
  go_enter Tryz.func45, Tryz.ntmps45
  go_wp2_with fail
  obtain ⟨W0, hW⟩ : ∃ W, W = w.alloc (.cells #[.int .i64 0, .slice none 0 0, .int .i64 0, .slice none 0 0] 43) := ⟨_, rfl⟩
  have hT : Below w.heap.size w W0 := by rw [hW]; exact (Below.refl _ _).alloc (Nat.le_refl _) _
  have kR : Bz W0 w.heap.size (.int .i64 0) (.slice none 0 0) (.int .i64 0) (.slice none 0 0) := ⟨by rw [hW]; exact Blk.new _ _ _⟩
  rw [← hW]
  clear hW
  (with_reducible refine (rof_any _ _ H1.out.lo H1.out.hi).mono ?_)
  rintro e u1 ⟨r1, rfl, hr1, hb1⟩
  have hT := hT.trans (hb1.mono hT.size)
  have kR := kR.below hb1
  obtain ⟨s1, A1, n1, c1, rfl⟩ := hr1.form
  go_wp2_with fail
  (with_reducible refine (rof_any _ _ H2.out.lo H2.out.hi).mono ?_)
  rintro e u2 ⟨r2, rfl, hr2, hb2⟩
  have hT := hT.trans (hb2.mono hT.size)
  have kR := kR.below hb2
  have hv1 := hr1.bv.later hb2
  obtain ⟨s2, A2, n2, c2, rfl⟩ := hr2.form
  go_wp2_with fail
  have hlt := kR.blk.lt
  (with_reducible refine (rnew_any _ _ _ _ _ _ _ _ _ _ _ hv1 hr2.bv H1.out.lt H2.out.lt).mono ?_)
  rintro e u3 ⟨rr, rfl, hrr, hb9⟩
  have hT := hT.trans (hb9.mono hT.size)
  have kR := kR.below hb9
  clear hr1 hr2 hv1
  rw [HP.out, HQ.out] at hrr
  rw [HE.out]
  obtain ⟨t1, C1, m1, e1, t2, C2, m2, e2, rfl, g1, g2⟩ := hrr
  have gR : w.heap.size ≤ w.heap.size := Nat.le_refl _
  have r0 := kR.blk.cell 0
  have r1 := kR.blk.cell 1
  have r2 := kR.blk.cell 2
  have r3 := kR.blk.cell 3
  have q0' := kR.blk.frozen 0
  have q1' := kR.blk.frozen 1
  have q2' := kR.blk.frozen 2
  have q3' := kR.blk.frozen 3
  simp at r0 r1 r2 r3
  have hbs := kR.blk.set4 (.int .i64 t1) (.slice C1 m1 e1) (.int .i64 t2) (.slice C2 m2 e2)
  have x0 := hbs.cell 0
  have x1 := hbs.cell 1
  have x2 := hbs.cell 2
  have x3 := hbs.cell 3
  simp at x0 x1 x2 x3
  go_wp2_with fail
  refine bodyPost_ret (v := .tuple #[.agg #[.int .i64 t1, .slice C1 m1 e1, .int .i64 t2, .slice C2 m2 e2], .int .i64 E]) (by simp [results, Tryz.results45, go_sem, x0, x1, x2, x3]) rfl ?_
  exact ⟨_, rfl, FO.mk2 ((g1.far4 hlt _ _ _ _).mono (by omega)) ((g2.far4 hlt _ _ _ _).mono (by omega)), below_st4 hT gR _ _ _ _⟩


end Go.Proofs.YtkjpfnbdlbnbkaaGreatDoor
