/- Walks: New (above 0). Printed by a program. Walks: New (below 0). Printed by a program. Walks: New, whole. -/
import Derived.Test.YtgpmmpajnfbecaaGreatXap

namespace Go.Proofs.YtgpmmpajnfbecaaGreat
open Go.RowKit

set_option maxRecDepth 100000 in
set_option maxHeartbeats 8000000 in
theorem new_pos (s1 s2 : Int) (A1 A2 : Option Addr) (n1 d1 n2 d2 : Nat) (p q : Int) (w : World) (h1 : BV w w.heap.size (.agg #[.int .i64 s1, .slice A1 n1 d1]) p) (h2 : BV w w.heap.size (.agg #[.int .i64 s2, .slice A2 n2 d2]) q) (hp : ab p < pw 60) (hq : ab q < pw 60) (hq0 : 0 < q) :
    Calls Tryz.prog 71 #[.agg #[.int .i64 s1, .slice A1 n1 d1], .agg #[.int .i64 s2, .slice A2 n2 d2]] w fun e w' => ∃ r, e = .returned (.tuple #[r, .int .i64 0]) ∧ FO w' w.heap.size r (Rat.divInt p q).num (((Rat.divInt p q).den : Nat) : Int) ∧ Below w.heap.size w w' := by
  have HKp := Lib.hid hp; clear hp
  have HKq := Lib.hid hq; clear hq
  obtain ⟨d, hd⟩ : ∃ d, ((Int.gcd p q : Nat) : Int) = d := ⟨_, rfl⟩
  have hdp : 0 < d := by rw [← hd]; exact gcd_pos (.inr (by omega))
  have hkd : ab d < pw 60 := by rw [← hd]; exact gcd_lt HKp.out HKq.out
  have hkv : ab (-d) < pw 60 := by rw [ab_neg]; exact hkd
  have HKd := Lib.hid hkd; clear hkd
  have HKv := Lib.hid hkv; clear hkv
  have HDP := Lib.hid hdp; clear hdp
  have HD := Lib.hid hd; clear hd
  have HQ0 := Lib.hid hq0; clear hq0
  go_enter Tryz.func71, Tryz.ntmps71
  go_wp2_with fail
  obtain ⟨W0, hW, hbx, kp, kq, kR⟩ := nboxes h1 h2
  rw [← hW]
  clear hW h1 h2
  have hT := hbx
  have hs2 : s2 = 1 := by rw [kq.sg]; exact sgn_pos HQ0.out
  subst hs2
  have kp0 := kp.c0
  have kp1 := kp.c1
  have kq0 := kq.c0
  have kq1 := kq.c1
  go_wp2_with fail
  clear kp0 kp1 kq0 kq1
  (with_reducible refine (gcd_any _ _ _ _ _ kp.bv kq.bv HKp.out HKq.out).mono ?_)
  rintro e u1 ⟨rd, rfl, hrd, hb9⟩
  have hT := hT.trans (hb9.mono hT.size)
  have kp := kp.below hb9
  have kq := kq.below hb9
  have kR := kR.below hb9
  rw [HD.out] at hrd
  obtain ⟨sd, Ad, nd, cd, rfl⟩ := hrd.form
  have kqz := kq.below ((Below.refl _ u1).alloc (Nat.le_refl _) (.cells #[.int .i64 sd, .slice Ad nd cd] 39))
  have kqz0 := kqz.c0
  have kqz1 := kqz.c1
  have kpz := kp.below ((Below.refl _ u1).alloc (Nat.le_refl _) (.cells #[.int .i64 sd, .slice Ad nd cd] 39))
  have kpz0 := kpz.c0
  have kpz1 := kpz.c1
  go_wp2_with fail
  clear kqz0 kqz1
  clear kqz
  clear kpz0 kpz1
  clear kpz
  obtain ⟨Wd, hW, hbx, kd⟩ := box1 hrd
  rw [← hW]
  clear hW
  have hT := hT.trans (hbx.mono hT.size)
  have kp := kp.below hbx
  have kq := kq.below hbx
  have kR := kR.below hbx
  have hdn : d ≠ 0 := by have := HDP.out; omega
  have HDN := Lib.hid hdn; clear hdn
  have hltA := kR.blk.lt
  (with_reducible refine (div_any _ _ _ _ _ kp.bv kd.bv HKp.out HKd.out HDN.out).mono ?_)
  rintro e u2 ⟨ra, rb, av, bv, rfl, hra, hrb, hqr, hb9⟩
  have hT := hT.trans (hb9.mono hT.size)
  have kp := kp.below hb9
  have kq := kq.below hb9
  have kR := kR.below hb9
  have kd := kd.below hb9
  have hea : av = (Rat.divInt p q).num := new_num (by have := HQ0.out; omega) (by rw [HD.out]; rw [if_neg (by have := HQ0.out; omega)]; exact hqr)
  clear hqr
  rw [hea] at hra
  clear hea
  obtain ⟨sa, Aa, na, ca, rfl⟩ := hra.form
  obtain ⟨sb, Ab, nb, cb, rfl⟩ := hrb.form
  have owna := hra
  have hBa := hT.size
  have kqz := kq.below (((Below.refl _ u2).alloc (Nat.le_refl _) (.cells #[.int .i64 sa, .slice Aa na ca] 39)).alloc (by simp) (.cells #[.int .i64 sb, .slice Ab nb cb] 39))
  have kqz0 := kqz.c0
  have kqz1 := kqz.c1
  have kdz := kd.below (((Below.refl _ u2).alloc (Nat.le_refl _) (.cells #[.int .i64 sa, .slice Aa na ca] 39)).alloc (by simp) (.cells #[.int .i64 sb, .slice Ab nb cb] 39))
  have kdz0 := kdz.c0
  have kdz1 := kdz.c1
  go_wp2_with fail
  clear kqz0 kqz1
  clear kqz
  clear kdz0 kdz1
  clear kdz
  obtain ⟨Wa, hW, hbx, ka, kb⟩ := box2 hra hrb
  rw [← hW]
  clear hW
  have hT := hT.trans (hbx.mono hT.size)
  have kp := kp.below hbx
  have kq := kq.below hbx
  have kR := kR.below hbx
  have kd := kd.below hbx
  clear kb kp
  have hra := owna.below hbx; clear owna
  have hltM := kR.blk.lt
  (with_reducible refine (div_any _ _ _ _ _ kq.bv kd.bv HKq.out HKd.out HDN.out).mono ?_)
  rintro e u3 ⟨rm, rn, mv, nv, rfl, hrm, hrn, hqr, hb9⟩
  have hT := hT.trans (hb9.mono hT.size)
  have kq := kq.below hb9
  have kR := kR.below hb9
  have kd := kd.below hb9
  have ka := ka.below hb9
  have hra := hra.below hb9
  have hem : mv = (((Rat.divInt p q).den : Nat) : Int) := new_den (by have := HQ0.out; omega) (by rw [HD.out]; rw [if_neg (by have := HQ0.out; omega)]; exact hqr)
  clear hqr
  rw [hem] at hrm
  clear hem
  obtain ⟨sm, Am, nm, cm, rfl⟩ := hrm.form
  obtain ⟨sn, An, nn, cn, rfl⟩ := hrn.form
  have ownm := hrm
  have own2 := ownm; clear ownm
  obtain ⟨W9, hW, hbx, km, kn⟩ := box2 hrm hrn
  have kaz := ka.below hbx
  have kRz := kR.below hbx
  have hT9 := hT.trans (hbx.mono hT.size)
  have hra9 := hra.below hbx
  have hrm9 := own2.below hbx
  have gR : w.heap.size ≤ w.heap.size + 1 + 1 := by omega
  rw [hW] at kaz kRz km kn hT9 hra9 hrm9
  have z0 := kaz.c0
  have z1 := kaz.c1
  have y0 := km.c0
  have y1 := km.c1
  have r0 := kRz.blk.cell 0
  have r1 := kRz.blk.cell 1
  have r2 := kRz.blk.cell 2
  have r3 := kRz.blk.cell 3
  have q0 := kRz.blk.frozen 0
  have q1 := kRz.blk.frozen 1
  have q2 := kRz.blk.frozen 2
  have q3 := kRz.blk.frozen 3
  simp at r0 r1 r2 r3
  have hbs := kRz.blk.set4 (.int .i64 sa) (.slice Aa na ca) (.int .i64 sm) (.slice Am nm cm)
  have x0 := hbs.cell 0
  have x1 := hbs.cell 1
  have x2 := hbs.cell 2
  have x3 := hbs.cell 3
  simp at x0 x1 x2 x3
  go_wp2_with fail
  refine bodyPost_ret (v := .tuple #[.agg #[.int .i64 sa, .slice Aa na ca, .int .i64 sm, .slice Am nm cm], .int .i64 0]) (by simp [results, Tryz.results71, go_sem, x0, x1, x2, x3]) rfl ?_
  exact ⟨_, rfl, FO.mk2 ((hra9.far4 hltA _ _ _ _).mono (by omega)) ((hrm9.far4 hltM _ _ _ _).mono (by omega)), below_st4 hT9 gR _ _ _ _⟩

end Go.Proofs.YtgpmmpajnfbecaaGreat

namespace Go.Proofs.YtgpmmpajnfbecaaGreat
open Go.RowKit

set_option maxRecDepth 100000 in
set_option maxHeartbeats 8000000 in
theorem new_neg (s1 s2 : Int) (A1 A2 : Option Addr) (n1 d1 n2 d2 : Nat) (p q : Int) (w : World) (h1 : BV w w.heap.size (.agg #[.int .i64 s1, .slice A1 n1 d1]) p) (h2 : BV w w.heap.size (.agg #[.int .i64 s2, .slice A2 n2 d2]) q) (hp : ab p < pw 60) (hq : ab q < pw 60) (hq0 : q < 0) :
    Calls Tryz.prog 71 #[.agg #[.int .i64 s1, .slice A1 n1 d1], .agg #[.int .i64 s2, .slice A2 n2 d2]] w fun e w' => ∃ r, e = .returned (.tuple #[r, .int .i64 0]) ∧ FO w' w.heap.size r (Rat.divInt p q).num (((Rat.divInt p q).den : Nat) : Int) ∧ Below w.heap.size w w' := by
  have HKp := Lib.hid hp; clear hp
  have HKq := Lib.hid hq; clear hq
  obtain ⟨d, hd⟩ : ∃ d, ((Int.gcd p q : Nat) : Int) = d := ⟨_, rfl⟩
  have hdp : 0 < d := by rw [← hd]; exact gcd_pos (.inr (by omega))
  have hkd : ab d < pw 60 := by rw [← hd]; exact gcd_lt HKp.out HKq.out
  have hkv : ab (-d) < pw 60 := by rw [ab_neg]; exact hkd
  have HKd := Lib.hid hkd; clear hkd
  have HKv := Lib.hid hkv; clear hkv
  have HDP := Lib.hid hdp; clear hdp
  have HD := Lib.hid hd; clear hd
  have HQ0 := Lib.hid hq0; clear hq0
  go_enter Tryz.func71, Tryz.ntmps71
  go_wp2_with fail
  obtain ⟨W0, hW, hbx, kp, kq, kR⟩ := nboxes h1 h2
  rw [← hW]
  clear hW h1 h2
  have hT := hbx
  have hs2 : s2 = -1 := by rw [kq.sg]; exact sgn_of_neg HQ0.out
  subst hs2
  have kp0 := kp.c0
  have kp1 := kp.c1
  have kq0 := kq.c0
  have kq1 := kq.c1
  go_wp2_with fail
  clear kp0 kp1 kq0 kq1
  (with_reducible refine (gcd_any _ _ _ _ _ kp.bv kq.bv HKp.out HKq.out).mono ?_)
  rintro e u1 ⟨rd, rfl, hrd, hb9⟩
  have hT := hT.trans (hb9.mono hT.size)
  have kp := kp.below hb9
  have kq := kq.below hb9
  have kR := kR.below hb9
  rw [HD.out] at hrd
  obtain ⟨sd, Ad, nd, cd, rfl⟩ := hrd.form
  have nbp_d := Nb.low kp.bv (Nat.le_refl _)
  have nep_d : w.heap.size ≠ u1.heap.size := by have := kp.blk.lt; omega
  have nbq_d := Nb.low kq.bv (Nat.le_refl _)
  have neq_d : w.heap.size + 1 ≠ u1.heap.size := by have := kq.blk.lt; omega
  have nbR_d : True := trivial
  have neR_d : w.heap.size + 1 + 1 ≠ u1.heap.size := by have := kR.blk.lt; omega
  have ged := hT.size
  have kqz := kq.below ((Below.refl _ u1).alloc (Nat.le_refl _) (.cells #[.int .i64 sd, .slice Ad nd cd] 39))
  have kqz0 := kqz.c0
  have kqz1 := kqz.c1
  go_wp2_with fail
  clear kqz0 kqz1
  clear kqz
  obtain ⟨Wd, hW, hbx, kd⟩ := box1 hrd
  rw [← hW]
  clear hW
  have hT := hT.trans (hbx.mono hT.size)
  have kp := kp.below hbx
  have kq := kq.below hbx
  have kR := kR.below hbx
  have ltd := kd.blk.lt
  (with_reducible refine (neg_any _ _ _ kd.bv HKd.out).mono ?_)
  rintro e u2 ⟨rv, rfl, hrv, hb9⟩
  have hT := hT.trans (hb9.mono hT.size)
  have kp := kp.below hb9
  have kq := kq.below hb9
  have kR := kR.below hb9
  have kd := kd.below hb9
  obtain ⟨sv, Av, nv, cv, rfl⟩ := hrv.form
  have nbv_d := Nb.high hrv ltd
  have t0 := kd.c0
  have t1 := kd.c1
  have f0 := kd.blk.frozen 0
  have f1 := kd.blk.frozen 1
  have kpz := kp.set2 nep_d nbp_d (.int .i64 sv) (.slice Av nv cv)
  have kqz := kq.set2 neq_d nbq_d (.int .i64 sv) (.slice Av nv cv)
  have kRz := kR.set2 neR_d nbR_d (.int .i64 sv) (.slice Av nv cv)
  have kdz := kd.put hrv.bv nbv_d
  have kpz0 := kpz.c0
  have kpz1 := kpz.c1
  have kdz0 := kdz.c0
  have kdz1 := kdz.c1
  go_wp2_with fail
  clear kpz0 kpz1
  clear kdz0 kdz1
  clear t0 t1 f0 f1
  have kp := kpz; clear kpz
  have kq := kqz; clear kqz
  have kR := kRz; clear kRz
  have kd := kdz; clear kdz
  have hT := (hT.setCell (p := ⟨_, 0, none⟩) ged (.int .i64 sv)).setCell (p := ⟨_, 1, none⟩) ged (.slice Av nv cv)
  generalize (u2.setCell ⟨u1.heap.size, 0, none⟩ (.int .i64 sv)).setCell ⟨u1.heap.size, 1, none⟩ (.slice Av nv cv) = Vv at *
  have HKd := HKv
  have hdn : -d ≠ 0 := by have := HDP.out; omega
  have HDN := Lib.hid hdn; clear hdn
  have hltA := kR.blk.lt
  (with_reducible refine (div_any _ _ _ _ _ kp.bv kd.bv HKp.out HKv.out HDN.out).mono ?_)
  rintro e u3 ⟨ra, rb, av, bv, rfl, hra, hrb, hqr, hb9⟩
  have hT := hT.trans (hb9.mono hT.size)
  have kp := kp.below hb9
  have kq := kq.below hb9
  have kR := kR.below hb9
  have kd := kd.below hb9
  have hea : av = (Rat.divInt p q).num := new_num (by have := HQ0.out; omega) (by rw [HD.out]; rw [if_pos HQ0.out]; exact hqr)
  clear hqr
  rw [hea] at hra
  clear hea
  obtain ⟨sa, Aa, na, ca, rfl⟩ := hra.form
  obtain ⟨sb, Ab, nb, cb, rfl⟩ := hrb.form
  have owna := hra
  have hBa := hT.size
  have kqz := kq.below (((Below.refl _ u3).alloc (Nat.le_refl _) (.cells #[.int .i64 sa, .slice Aa na ca] 39)).alloc (by simp) (.cells #[.int .i64 sb, .slice Ab nb cb] 39))
  have kqz0 := kqz.c0
  have kqz1 := kqz.c1
  have kdz := kd.below (((Below.refl _ u3).alloc (Nat.le_refl _) (.cells #[.int .i64 sa, .slice Aa na ca] 39)).alloc (by simp) (.cells #[.int .i64 sb, .slice Ab nb cb] 39))
  have kdz0 := kdz.c0
  have kdz1 := kdz.c1
  go_wp2_with fail
  clear kqz0 kqz1
  clear kqz
  clear kdz0 kdz1
  clear kdz
  obtain ⟨Wa, hW, hbx, ka, kb⟩ := box2 hra hrb
  rw [← hW]
  clear hW
  have hT := hT.trans (hbx.mono hT.size)
  have kp := kp.below hbx
  have kq := kq.below hbx
  have kR := kR.below hbx
  have kd := kd.below hbx
  clear kb kp
  have hra := owna.below hbx; clear owna
  have hltM := kR.blk.lt
  (with_reducible refine (div_any _ _ _ _ _ kq.bv kd.bv HKq.out HKv.out HDN.out).mono ?_)
  rintro e u4 ⟨rm, rn, mv, nv, rfl, hrm, hrn, hqr, hb9⟩
  have hT := hT.trans (hb9.mono hT.size)
  have kq := kq.below hb9
  have kR := kR.below hb9
  have kd := kd.below hb9
  have ka := ka.below hb9
  have hra := hra.below hb9
  have hem : mv = (((Rat.divInt p q).den : Nat) : Int) := new_den (by have := HQ0.out; omega) (by rw [HD.out]; rw [if_pos HQ0.out]; exact hqr)
  clear hqr
  rw [hem] at hrm
  clear hem
  obtain ⟨sm, Am, nm, cm, rfl⟩ := hrm.form
  obtain ⟨sn, An, nn, cn, rfl⟩ := hrn.form
  have ownm := hrm
  have own2 := ownm; clear ownm
  obtain ⟨W9, hW, hbx, km, kn⟩ := box2 hrm hrn
  have kaz := ka.below hbx
  have kRz := kR.below hbx
  have hT9 := hT.trans (hbx.mono hT.size)
  have hra9 := hra.below hbx
  have hrm9 := own2.below hbx
  have gR : w.heap.size ≤ w.heap.size + 1 + 1 := by omega
  rw [hW] at kaz kRz km kn hT9 hra9 hrm9
  have z0 := kaz.c0
  have z1 := kaz.c1
  have y0 := km.c0
  have y1 := km.c1
  have r0 := kRz.blk.cell 0
  have r1 := kRz.blk.cell 1
  have r2 := kRz.blk.cell 2
  have r3 := kRz.blk.cell 3
  have q0 := kRz.blk.frozen 0
  have q1 := kRz.blk.frozen 1
  have q2 := kRz.blk.frozen 2
  have q3 := kRz.blk.frozen 3
  simp at r0 r1 r2 r3
  have hbs := kRz.blk.set4 (.int .i64 sa) (.slice Aa na ca) (.int .i64 sm) (.slice Am nm cm)
  have x0 := hbs.cell 0
  have x1 := hbs.cell 1
  have x2 := hbs.cell 2
  have x3 := hbs.cell 3
  simp at x0 x1 x2 x3
  go_wp2_with fail
  refine bodyPost_ret (v := .tuple #[.agg #[.int .i64 sa, .slice Aa na ca, .int .i64 sm, .slice Am nm cm], .int .i64 0]) (by simp [results, Tryz.results71, go_sem, x0, x1, x2, x3]) rfl ?_
  exact ⟨_, rfl, FO.mk2 ((hra9.far4 hltA _ _ _ _).mono (by omega)) ((hrm9.far4 hltM _ _ _ _).mono (by omega)), below_st4 hT9 gR _ _ _ _⟩

end Go.Proofs.YtgpmmpajnfbecaaGreat

namespace Go.Proofs.YtgpmmpajnfbecaaGreat
open Go.RowKit

set_option maxRecDepth 100000 in
set_option maxHeartbeats 4000000 in
theorem new_zero (s1 s2 : Int) (A1 A2 : Option Addr) (n1 d1 n2 d2 : Nat) (p : Int) (w : World) (h1 : BV w w.heap.size (.agg #[.int .i64 s1, .slice A1 n1 d1]) p) (h2 : BV w w.heap.size (.agg #[.int .i64 s2, .slice A2 n2 d2]) 0) (hp : ab p < pw 60) :
    Calls Tryz.prog 71 #[.agg #[.int .i64 s1, .slice A1 n1 d1], .agg #[.int .i64 s2, .slice A2 n2 d2]] w fun e w' => e = .returned (.tuple #[.agg #[.int .i64 0, .slice none 0 0, .int .i64 0, .slice none 0 0], .int .i64 15]) ∧ Below w.heap.size w w' := by
  have HKp := Lib.hid hp; clear hp
  have hz : ab (0 : Int) < pw 60 := by rw [ab_zero]; exact pw_pos 60
  have HKq := Lib.hid hz; clear hz
  go_enter Tryz.func71, Tryz.ntmps71
  go_wp2_with fail
  obtain ⟨W0, hW, hbx, kp, kq, kR⟩ := nboxes h1 h2
  rw [← hW]
  clear hW h1 h2
  have hT := hbx
  have hs2 : s2 = 0 := kq.s0
  subst hs2
  have p0 := kp.c0
  have p1 := kp.c1
  have q0 := kq.c0
  have q1 := kq.c1
  go_wp2_with fail
  clear p0 p1 q0 q1
  (with_reducible refine (gcd_any _ _ _ _ _ kp.bv kq.bv HKp.out HKq.out).mono ?_)
  rintro e u1 ⟨rd, rfl, hrd, hb9⟩
  have hT := hT.trans (hb9.mono hT.size)
  obtain ⟨sd, Ad, nd, cd, rfl⟩ := hrd.form
  have kq := (kq.below hb9).below ((Below.refl _ u1).alloc (Nat.le_refl _) (.cells #[.int .i64 sd, .slice Ad nd cd] 39))
  have kR := (kR.below hb9).below ((Below.refl _ u1).alloc (Nat.le_refl _) (.cells #[.int .i64 sd, .slice Ad nd cd] 39))
  have hT := hT.alloc hT.size (.cells #[.int .i64 sd, .slice Ad nd cd] 39)
  have q0 := kq.c0
  have gR : w.heap.size ≤ w.heap.size + 1 + 1 := by omega
  have r0 := kR.blk.cell 0
  have r1 := kR.blk.cell 1
  have r2 := kR.blk.cell 2
  have r3 := kR.blk.cell 3
  have q0' := kR.blk.frozen 0
  have q1' := kR.blk.frozen 1
  have q2' := kR.blk.frozen 2
  have q3' := kR.blk.frozen 3
  simp at r0 r1 r2 r3
  have hbs := kR.blk.set4 (.int .i64 0) (.slice none 0 0) (.int .i64 0) (.slice none 0 0)
  have x0 := hbs.cell 0
  have x1 := hbs.cell 1
  have x2 := hbs.cell 2
  have x3 := hbs.cell 3
  simp at x0 x1 x2 x3
  go_wp2_with fail
  refine bodyPost_ret (v := .tuple #[.agg #[.int .i64 0, .slice none 0 0, .int .i64 0, .slice none 0 0], .int .i64 15]) (by simp [results, Tryz.results71, go_sem, x0, x1, x2, x3]) rfl ?_
  exact ⟨rfl, below_st4 hT gR _ _ _ _⟩

/-- What New returns. -/
def newE (q : Int) : Int := if q = 0 then 15 else 0
def newN (p q : Int) : Int := if q = 0 then 0 else (Rat.divInt p q).num
def newD (p q : Int) : Int := if q = 0 then 0 else (((Rat.divInt p q).den : Nat) : Int)
def NewP (p q : Int) (w : World) (e : Ending) (w' : World) : Prop := ∃ r, e = .returned (.tuple #[r, .int .i64 (newE q)]) ∧ FO w' w.heap.size r (newN p q) (newD p q) ∧ Below w.heap.size w w'
theorem new_any (s1 s2 : Int) (A1 A2 : Option Addr) (n1 d1 n2 d2 : Nat) (p q : Int) (w : World) (h1 : BV w w.heap.size (.agg #[.int .i64 s1, .slice A1 n1 d1]) p) (h2 : BV w w.heap.size (.agg #[.int .i64 s2, .slice A2 n2 d2]) q) (hp : ab p < pw 60) (hq : ab q < pw 60) :
    Calls Tryz.prog 71 #[.agg #[.int .i64 s1, .slice A1 n1 d1], .agg #[.int .i64 s2, .slice A2 n2 d2]] w (NewP p q w) := by
  unfold NewP newE newN newD
  rcases Int.lt_trichotomy q 0 with h | h | h
  · rw [if_neg (by omega), if_neg (by omega), if_neg (by omega)]
    exact new_neg s1 s2 A1 A2 n1 d1 n2 d2 p q w h1 h2 hp hq h
  · subst h
    rw [if_pos rfl, if_pos rfl, if_pos rfl]
    exact (new_zero s1 s2 A1 A2 n1 d1 n2 d2 p w h1 h2 hp).mono fun e w' ⟨he, hb⟩ => ⟨_, he, FO.zero _ _, hb⟩
  · rw [if_neg (by omega), if_neg (by omega), if_neg (by omega)]
    exact new_pos s1 s2 A1 A2 n1 d1 n2 d2 p q w h1 h2 hp hq h

end Go.Proofs.YtgpmmpajnfbecaaGreat
