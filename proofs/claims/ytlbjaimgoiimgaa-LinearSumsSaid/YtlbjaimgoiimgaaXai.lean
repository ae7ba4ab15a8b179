/- Walks: New (above 0). Printed by a program. Walks: New (below 0). Printed by a program. Walks: New, whole. Walks: multiply. Printed by a program. Walks: Mul and Div of fractions. Printed by a program. Walks: Add and Sub of fractions, where there is room. Printed by a program. -/
import Derived.Test.YtlbjaimgoiimgaaXah
import Derived.Test.YtlbjaimgoiimgaaXaf

namespace Go.Proofs.Ytlbjaimgoiimgaa
open Go.RowKit

set_option maxRecDepth 100000 in
set_option maxHeartbeats 8000000 in
theorem new_pos (s1 s2 : Int) (A1 A2 : Option Addr) (n1 d1 n2 d2 : Nat) (p q : Int) (w : World) (h1 : BV w w.heap.size (.agg #[.int .i64 s1, .slice A1 n1 d1]) p) (h2 : BV w w.heap.size (.agg #[.int .i64 s2, .slice A2 n2 d2]) q) (hp : ab p < pw 60) (hq : ab q < pw 60) (hq0 : 0 < q) :
    Calls Try.prog 54 #[.agg #[.int .i64 s1, .slice A1 n1 d1], .agg #[.int .i64 s2, .slice A2 n2 d2]] w fun e w' => ∃ r, e = .returned (.tuple #[r, .int .i64 0]) ∧ FO w' w.heap.size r (Rat.divInt p q).num (((Rat.divInt p q).den : Nat) : Int) ∧ Below w.heap.size w w' := by
  have HKp := Lib.hid hp; clear hp
  have HKq := Lib.hid hq; clear hq
  obtain ⟨d, hd⟩ : ∃ d, ((Int.gcd p q : Nat) : Int) = d := ⟨_, rfl⟩
  have hdp : 0 < d := by rw [← hd]; exact gcd_pos (.inr (by omega))
  have hkd : ab d < pw 60 := by rw [← hd]; exact gcd_lt HKp.out HKq.out
  have hkv : ab (-d) < pw 60 := by rw [ab_neg]; exact hkd
  have HKd := Lib.hid hkd; clear hkd
  have HKv := Lib.hid hkv; clear hkv
  have HDP := Lib.hid hdp; clear hdp
  have HD := Lib.hid hd; clear hd
  have HQ0 := Lib.hid hq0; clear hq0
  go_enter Try.func54, Try.ntmps54
  go_wp2_with fail
  obtain ⟨W0, hW, hbx, kp, kq, kR⟩ := nboxes h1 h2
  rw [← hW]
  clear hW h1 h2
  have hT := hbx
  have hs2 : s2 = 1 := by rw [kq.sg]; exact sgn_pos HQ0.out
  subst hs2
  have kp0 := kp.c0
  have kp1 := kp.c1
  have kq0 := kq.c0
  have kq1 := kq.c1
  go_wp2_with fail
  clear kp0 kp1 kq0 kq1
  (with_reducible refine (gcd_any _ _ _ _ _ kp.bv kq.bv HKp.out HKq.out).mono ?_)
  rintro e u1 ⟨rd, rfl, hrd, hb9⟩
  have hT := hT.trans (hb9.mono hT.size)
  have kp := kp.below hb9
  have kq := kq.below hb9
  have kR := kR.below hb9
  rw [HD.out] at hrd
  obtain ⟨sd, Ad, nd, cd, rfl⟩ := hrd.form
  have kqz := kq.below ((Below.refl _ u1).alloc (Nat.le_refl _) (.cells #[.int .i64 sd, .slice Ad nd cd] 38))
  have kqz0 := kqz.c0
  have kqz1 := kqz.c1
  have kpz := kp.below ((Below.refl _ u1).alloc (Nat.le_refl _) (.cells #[.int .i64 sd, .slice Ad nd cd] 38))
  have kpz0 := kpz.c0
  have kpz1 := kpz.c1
  go_wp2_with fail
  clear kqz0 kqz1
  clear kqz
  clear kpz0 kpz1
  clear kpz
  obtain ⟨Wd, hW, hbx, kd⟩ := box1 hrd
  rw [← hW]
  clear hW
  have hT := hT.trans (hbx.mono hT.size)
  have kp := kp.below hbx
  have kq := kq.below hbx
  have kR := kR.below hbx
  have hdn : d ≠ 0 := by have := HDP.out; omega
  have HDN := Lib.hid hdn; clear hdn
  have hltA := kR.blk.lt
  (with_reducible refine (div_any _ _ _ _ _ kp.bv kd.bv HKp.out HKd.out HDN.out).mono ?_)
  rintro e u2 ⟨ra, rb, av, bv, rfl, hra, hrb, hqr, hb9⟩
  have hT := hT.trans (hb9.mono hT.size)
  have kp := kp.below hb9
  have kq := kq.below hb9
  have kR := kR.below hb9
  have kd := kd.below hb9
  have hea : av = (Rat.divInt p q).num := new_num (by have := HQ0.out; omega) (by rw [HD.out]; rw [if_neg (by have := HQ0.out; omega)]; exact hqr)
  clear hqr
  rw [hea] at hra
  clear hea
  obtain ⟨sa, Aa, na, ca, rfl⟩ := hra.form
  obtain ⟨sb, Ab, nb, cb, rfl⟩ := hrb.form
  have owna := hra
  have hBa := hT.size
  have kqz := kq.below (((Below.refl _ u2).alloc (Nat.le_refl _) (.cells #[.int .i64 sa, .slice Aa na ca] 38)).alloc (by simp) (.cells #[.int .i64 sb, .slice Ab nb cb] 38))
  have kqz0 := kqz.c0
  have kqz1 := kqz.c1
  have kdz := kd.below (((Below.refl _ u2).alloc (Nat.le_refl _) (.cells #[.int .i64 sa, .slice Aa na ca] 38)).alloc (by simp) (.cells #[.int .i64 sb, .slice Ab nb cb] 38))
  have kdz0 := kdz.c0
  have kdz1 := kdz.c1
  go_wp2_with fail
  clear kqz0 kqz1
  clear kqz
  clear kdz0 kdz1
  clear kdz
  obtain ⟨Wa, hW, hbx, ka, kb⟩ := box2 hra hrb
  rw [← hW]
  clear hW
  have hT := hT.trans (hbx.mono hT.size)
  have kp := kp.below hbx
  have kq := kq.below hbx
  have kR := kR.below hbx
  have kd := kd.below hbx
  clear kb kp
  have hra := owna.below hbx; clear owna
  have hltM := kR.blk.lt
  (with_reducible refine (div_any _ _ _ _ _ kq.bv kd.bv HKq.out HKd.out HDN.out).mono ?_)
  rintro e u3 ⟨rm, rn, mv, nv, rfl, hrm, hrn, hqr, hb9⟩
  have hT := hT.trans (hb9.mono hT.size)
  have kq := kq.below hb9
  have kR := kR.below hb9
  have kd := kd.below hb9
  have ka := ka.below hb9
  have hra := hra.below hb9
  have hem : mv = (((Rat.divInt p q).den : Nat) : Int) := new_den (by have := HQ0.out; omega) (by rw [HD.out]; rw [if_neg (by have := HQ0.out; omega)]; exact hqr)
  clear hqr
  rw [hem] at hrm
  clear hem
  obtain ⟨sm, Am, nm, cm, rfl⟩ := hrm.form
  obtain ⟨sn, An, nn, cn, rfl⟩ := hrn.form
  have ownm := hrm
  have own2 := ownm; clear ownm
  obtain ⟨W9, hW, hbx, km, kn⟩ := box2 hrm hrn
  have kaz := ka.below hbx
  have kRz := kR.below hbx
  have hT9 := hT.trans (hbx.mono hT.size)
  have hra9 := hra.below hbx
  have hrm9 := own2.below hbx
  have gR : w.heap.size ≤ w.heap.size + 1 + 1 := by omega
  rw [hW] at kaz kRz km kn hT9 hra9 hrm9
  have z0 := kaz.c0
  have z1 := kaz.c1
  have y0 := km.c0
  have y1 := km.c1
  have r0 := kRz.blk.cell 0
  have r1 := kRz.blk.cell 1
  have r2 := kRz.blk.cell 2
  have r3 := kRz.blk.cell 3
  have q0 := kRz.blk.frozen 0
  have q1 := kRz.blk.frozen 1
  have q2 := kRz.blk.frozen 2
  have q3 := kRz.blk.frozen 3
  simp at r0 r1 r2 r3
  have hbs := kRz.blk.set4 (.int .i64 sa) (.slice Aa na ca) (.int .i64 sm) (.slice Am nm cm)
  have x0 := hbs.cell 0
  have x1 := hbs.cell 1
  have x2 := hbs.cell 2
  have x3 := hbs.cell 3
  simp at x0 x1 x2 x3
  go_wp2_with fail
  refine bodyPost_ret (v := .tuple #[.agg #[.int .i64 sa, .slice Aa na ca, .int .i64 sm, .slice Am nm cm], .int .i64 0]) (by simp [results, Try.results54, go_sem, x0, x1, x2, x3]) rfl ?_
  exact ⟨_, rfl, FO.mk2 ((hra9.far4 hltA _ _ _ _).mono (by omega)) ((hrm9.far4 hltM _ _ _ _).mono (by omega)), below_st4 hT9 gR _ _ _ _⟩

end Go.Proofs.Ytlbjaimgoiimgaa

namespace Go.Proofs.Ytlbjaimgoiimgaa
open Go.RowKit

set_option maxRecDepth 100000 in
set_option maxHeartbeats 8000000 in
theorem new_neg (s1 s2 : Int) (A1 A2 : Option Addr) (n1 d1 n2 d2 : Nat) (p q : Int) (w : World) (h1 : BV w w.heap.size (.agg #[.int .i64 s1, .slice A1 n1 d1]) p) (h2 : BV w w.heap.size (.agg #[.int .i64 s2, .slice A2 n2 d2]) q) (hp : ab p < pw 60) (hq : ab q < pw 60) (hq0 : q < 0) :
    Calls Try.prog 54 #[.agg #[.int .i64 s1, .slice A1 n1 d1], .agg #[.int .i64 s2, .slice A2 n2 d2]] w fun e w' => ∃ r, e = .returned (.tuple #[r, .int .i64 0]) ∧ FO w' w.heap.size r (Rat.divInt p q).num (((Rat.divInt p q).den : Nat) : Int) ∧ Below w.heap.size w w' := by
  have HKp := Lib.hid hp; clear hp
  have HKq := Lib.hid hq; clear hq
  obtain ⟨d, hd⟩ : ∃ d, ((Int.gcd p q : Nat) : Int) = d := ⟨_, rfl⟩
  have hdp : 0 < d := by rw [← hd]; exact gcd_pos (.inr (by omega))
  have hkd : ab d < pw 60 := by rw [← hd]; exact gcd_lt HKp.out HKq.out
  have hkv : ab (-d) < pw 60 := by rw [ab_neg]; exact hkd
  have HKd := Lib.hid hkd; clear hkd
  have HKv := Lib.hid hkv; clear hkv
  have HDP := Lib.hid hdp; clear hdp
  have HD := Lib.hid hd; clear hd
  have HQ0 := Lib.hid hq0; clear hq0
  go_enter Try.func54, Try.ntmps54
  go_wp2_with fail
  obtain ⟨W0, hW, hbx, kp, kq, kR⟩ := nboxes h1 h2
  rw [← hW]
  clear hW h1 h2
  have hT := hbx
  have hs2 : s2 = -1 := by rw [kq.sg]; exact sgn_of_neg HQ0.out
  subst hs2
  have kp0 := kp.c0
  have kp1 := kp.c1
  have kq0 := kq.c0
  have kq1 := kq.c1
  go_wp2_with fail
  clear kp0 kp1 kq0 kq1
  (with_reducible refine (gcd_any _ _ _ _ _ kp.bv kq.bv HKp.out HKq.out).mono ?_)
  rintro e u1 ⟨rd, rfl, hrd, hb9⟩
  have hT := hT.trans (hb9.mono hT.size)
  have kp := kp.below hb9
  have kq := kq.below hb9
  have kR := kR.below hb9
  rw [HD.out] at hrd
  obtain ⟨sd, Ad, nd, cd, rfl⟩ := hrd.form
  have nbp_d := Nb.low kp.bv (Nat.le_refl _)
  have nep_d : w.heap.size ≠ u1.heap.size := by have := kp.blk.lt; omega
  have nbq_d := Nb.low kq.bv (Nat.le_refl _)
  have neq_d : w.heap.size + 1 ≠ u1.heap.size := by have := kq.blk.lt; omega
  have nbR_d : True := trivial
  have neR_d : w.heap.size + 1 + 1 ≠ u1.heap.size := by have := kR.blk.lt; omega
  have ged := hT.size
  have kqz := kq.below ((Below.refl _ u1).alloc (Nat.le_refl _) (.cells #[.int .i64 sd, .slice Ad nd cd] 38))
  have kqz0 := kqz.c0
  have kqz1 := kqz.c1
  go_wp2_with fail
  clear kqz0 kqz1
  clear kqz
  obtain ⟨Wd, hW, hbx, kd⟩ := box1 hrd
  rw [← hW]
  clear hW
  have hT := hT.trans (hbx.mono hT.size)
  have kp := kp.below hbx
  have kq := kq.below hbx
  have kR := kR.below hbx
  have ltd := kd.blk.lt
  (with_reducible refine (neg_any _ _ _ kd.bv HKd.out).mono ?_)
  rintro e u2 ⟨rv, rfl, hrv, hb9⟩
  have hT := hT.trans (hb9.mono hT.size)
  have kp := kp.below hb9
  have kq := kq.below hb9
  have kR := kR.below hb9
  have kd := kd.below hb9
  obtain ⟨sv, Av, nv, cv, rfl⟩ := hrv.form
  have nbv_d := Nb.high hrv ltd
  have t0 := kd.c0
  have t1 := kd.c1
  have f0 := kd.blk.frozen 0
  have f1 := kd.blk.frozen 1
  have kpz := kp.set2 nep_d nbp_d (.int .i64 sv) (.slice Av nv cv)
  have kqz := kq.set2 neq_d nbq_d (.int .i64 sv) (.slice Av nv cv)
  have kRz := kR.set2 neR_d nbR_d (.int .i64 sv) (.slice Av nv cv)
  have kdz := kd.put hrv.bv nbv_d
  have kpz0 := kpz.c0
  have kpz1 := kpz.c1
  have kdz0 := kdz.c0
  have kdz1 := kdz.c1
  go_wp2_with fail
  clear kpz0 kpz1
  clear kdz0 kdz1
  clear t0 t1 f0 f1
  have kp := kpz; clear kpz
  have kq := kqz; clear kqz
  have kR := kRz; clear kRz
  have kd := kdz; clear kdz
  have hT := (hT.setCell (p := ⟨_, 0, none⟩) ged (.int .i64 sv)).setCell (p := ⟨_, 1, none⟩) ged (.slice Av nv cv)
  generalize (u2.setCell ⟨u1.heap.size, 0, none⟩ (.int .i64 sv)).setCell ⟨u1.heap.size, 1, none⟩ (.slice Av nv cv) = Vv at *
  have HKd := HKv
  have hdn : -d ≠ 0 := by have := HDP.out; omega
  have HDN := Lib.hid hdn; clear hdn
  have hltA := kR.blk.lt
  (with_reducible refine (div_any _ _ _ _ _ kp.bv kd.bv HKp.out HKv.out HDN.out).mono ?_)
  rintro e u3 ⟨ra, rb, av, bv, rfl, hra, hrb, hqr, hb9⟩
  have hT := hT.trans (hb9.mono hT.size)
  have kp := kp.below hb9
  have kq := kq.below hb9
  have kR := kR.below hb9
  have kd := kd.below hb9
  have hea : av = (Rat.divInt p q).num := new_num (by have := HQ0.out; omega) (by rw [HD.out]; rw [if_pos HQ0.out]; exact hqr)
  clear hqr
  rw [hea] at hra
  clear hea
  obtain ⟨sa, Aa, na, ca, rfl⟩ := hra.form
  obtain ⟨sb, Ab, nb, cb, rfl⟩ := hrb.form
  have owna := hra
  have hBa := hT.size
  have kqz := kq.below (((Below.refl _ u3).alloc (Nat.le_refl _) (.cells #[.int .i64 sa, .slice Aa na ca] 38)).alloc (by simp) (.cells #[.int .i64 sb, .slice Ab nb cb] 38))
  have kqz0 := kqz.c0
  have kqz1 := kqz.c1
  have kdz := kd.below (((Below.refl _ u3).alloc (Nat.le_refl _) (.cells #[.int .i64 sa, .slice Aa na ca] 38)).alloc (by simp) (.cells #[.int .i64 sb, .slice Ab nb cb] 38))
  have kdz0 := kdz.c0
  have kdz1 := kdz.c1
  go_wp2_with fail
  clear kqz0 kqz1
  clear kqz
  clear kdz0 kdz1
  clear kdz
  obtain ⟨Wa, hW, hbx, ka, kb⟩ := box2 hra hrb
  rw [← hW]
  clear hW
  have hT := hT.trans (hbx.mono hT.size)
  have kp := kp.below hbx
  have kq := kq.below hbx
  have kR := kR.below hbx
  have kd := kd.below hbx
  clear kb kp
  have hra := owna.below hbx; clear owna
  have hltM := kR.blk.lt
  (with_reducible refine (div_any _ _ _ _ _ kq.bv kd.bv HKq.out HKv.out HDN.out).mono ?_)
  rintro e u4 ⟨rm, rn, mv, nv, rfl, hrm, hrn, hqr, hb9⟩
  have hT := hT.trans (hb9.mono hT.size)
  have kq := kq.below hb9
  have kR := kR.below hb9
  have kd := kd.below hb9
  have ka := ka.below hb9
  have hra := hra.below hb9
  have hem : mv = (((Rat.divInt p q).den : Nat) : Int) := new_den (by have := HQ0.out; omega) (by rw [HD.out]; rw [if_pos HQ0.out]; exact hqr)
  clear hqr
  rw [hem] at hrm
  clear hem
  obtain ⟨sm, Am, nm, cm, rfl⟩ := hrm.form
  obtain ⟨sn, An, nn, cn, rfl⟩ := hrn.form
  have ownm := hrm
  have own2 := ownm; clear ownm
  obtain ⟨W9, hW, hbx, km, kn⟩ := box2 hrm hrn
  have kaz := ka.below hbx
  have kRz := kR.below hbx
  have hT9 := hT.trans (hbx.mono hT.size)
  have hra9 := hra.below hbx
  have hrm9 := own2.below hbx
  have gR : w.heap.size ≤ w.heap.size + 1 + 1 := by omega
  rw [hW] at kaz kRz km kn hT9 hra9 hrm9
  have z0 := kaz.c0
  have z1 := kaz.c1
  have y0 := km.c0
  have y1 := km.c1
  have r0 := kRz.blk.cell 0
  have r1 := kRz.blk.cell 1
  have r2 := kRz.blk.cell 2
  have r3 := kRz.blk.cell 3
  have q0 := kRz.blk.frozen 0
  have q1 := kRz.blk.frozen 1
  have q2 := kRz.blk.frozen 2
  have q3 := kRz.blk.frozen 3
  simp at r0 r1 r2 r3
  have hbs := kRz.blk.set4 (.int .i64 sa) (.slice Aa na ca) (.int .i64 sm) (.slice Am nm cm)
  have x0 := hbs.cell 0
  have x1 := hbs.cell 1
  have x2 := hbs.cell 2
  have x3 := hbs.cell 3
  simp at x0 x1 x2 x3
  go_wp2_with fail
  refine bodyPost_ret (v := .tuple #[.agg #[.int .i64 sa, .slice Aa na ca, .int .i64 sm, .slice Am nm cm], .int .i64 0]) (by simp [results, Try.results54, go_sem, x0, x1, x2, x3]) rfl ?_
  exact ⟨_, rfl, FO.mk2 ((hra9.far4 hltA _ _ _ _).mono (by omega)) ((hrm9.far4 hltM _ _ _ _).mono (by omega)), below_st4 hT9 gR _ _ _ _⟩

end Go.Proofs.Ytlbjaimgoiimgaa

namespace Go.Proofs.Ytlbjaimgoiimgaa
open Go.RowKit

set_option maxRecDepth 100000 in
set_option maxHeartbeats 4000000 in
theorem new_zero (s1 s2 : Int) (A1 A2 : Option Addr) (n1 d1 n2 d2 : Nat) (p : Int) (w : World) (h1 : BV w w.heap.size (.agg #[.int .i64 s1, .slice A1 n1 d1]) p) (h2 : BV w w.heap.size (.agg #[.int .i64 s2, .slice A2 n2 d2]) 0) (hp : ab p < pw 60) :
    Calls Try.prog 54 #[.agg #[.int .i64 s1, .slice A1 n1 d1], .agg #[.int .i64 s2, .slice A2 n2 d2]] w fun e w' => e = .returned (.tuple #[.agg #[.int .i64 0, .slice none 0 0, .int .i64 0, .slice none 0 0], .int .i64 15]) ∧ Below w.heap.size w w' := by
  have HKp := Lib.hid hp; clear hp
  have hz : ab (0 : Int) < pw 60 := by rw [ab_zero]; exact pw_pos 60
  have HKq := Lib.hid hz; clear hz
  go_enter Try.func54, Try.ntmps54
  go_wp2_with fail
  obtain ⟨W0, hW, hbx, kp, kq, kR⟩ := nboxes h1 h2
  rw [← hW]
  clear hW h1 h2
  have hT := hbx
  have hs2 : s2 = 0 := kq.s0
  subst hs2
  have p0 := kp.c0
  have p1 := kp.c1
  have q0 := kq.c0
  have q1 := kq.c1
  go_wp2_with fail
  clear p0 p1 q0 q1
  (with_reducible refine (gcd_any _ _ _ _ _ kp.bv kq.bv HKp.out HKq.out).mono ?_)
  rintro e u1 ⟨rd, rfl, hrd, hb9⟩
  have hT := hT.trans (hb9.mono hT.size)
  obtain ⟨sd, Ad, nd, cd, rfl⟩ := hrd.form
  have kq := (kq.below hb9).below ((Below.refl _ u1).alloc (Nat.le_refl _) (.cells #[.int .i64 sd, .slice Ad nd cd] 38))
  have kR := (kR.below hb9).below ((Below.refl _ u1).alloc (Nat.le_refl _) (.cells #[.int .i64 sd, .slice Ad nd cd] 38))
  have hT := hT.alloc hT.size (.cells #[.int .i64 sd, .slice Ad nd cd] 38)
  have q0 := kq.c0
  have gR : w.heap.size ≤ w.heap.size + 1 + 1 := by omega
  have r0 := kR.blk.cell 0
  have r1 := kR.blk.cell 1
  have r2 := kR.blk.cell 2
  have r3 := kR.blk.cell 3
  have q0' := kR.blk.frozen 0
  have q1' := kR.blk.frozen 1
  have q2' := kR.blk.frozen 2
  have q3' := kR.blk.frozen 3
  simp at r0 r1 r2 r3
  have hbs := kR.blk.set4 (.int .i64 0) (.slice none 0 0) (.int .i64 0) (.slice none 0 0)
  have x0 := hbs.cell 0
  have x1 := hbs.cell 1
  have x2 := hbs.cell 2
  have x3 := hbs.cell 3
  simp at x0 x1 x2 x3
  go_wp2_with fail
  refine bodyPost_ret (v := .tuple #[.agg #[.int .i64 0, .slice none 0 0, .int .i64 0, .slice none 0 0], .int .i64 15]) (by simp [results, Try.results54, go_sem, x0, x1, x2, x3]) rfl ?_
  exact ⟨rfl, below_st4 hT gR _ _ _ _⟩

/-- What New returns. -/
def newE (q : Int) : Int := if q = 0 then 15 else 0
def newN (p q : Int) : Int := if q = 0 then 0 else (Rat.divInt p q).num
def newD (p q : Int) : Int := if q = 0 then 0 else (((Rat.divInt p q).den : Nat) : Int)
def NewP (p q : Int) (w : World) (e : Ending) (w' : World) : Prop := ∃ r, e = .returned (.tuple #[r, .int .i64 (newE q)]) ∧ FO w' w.heap.size r (newN p q) (newD p q) ∧ Below w.heap.size w w'
theorem new_any (s1 s2 : Int) (A1 A2 : Option Addr) (n1 d1 n2 d2 : Nat) (p q : Int) (w : World) (h1 : BV w w.heap.size (.agg #[.int .i64 s1, .slice A1 n1 d1]) p) (h2 : BV w w.heap.size (.agg #[.int .i64 s2, .slice A2 n2 d2]) q) (hp : ab p < pw 60) (hq : ab q < pw 60) :
    Calls Try.prog 54 #[.agg #[.int .i64 s1, .slice A1 n1 d1], .agg #[.int .i64 s2, .slice A2 n2 d2]] w (NewP p q w) := by
  unfold NewP newE newN newD
  rcases Int.lt_trichotomy q 0 with h | h | h
  · rw [if_neg (by omega), if_neg (by omega), if_neg (by omega)]
    exact new_neg s1 s2 A1 A2 n1 d1 n2 d2 p q w h1 h2 hp hq h
  · subst h
    rw [if_pos rfl, if_pos rfl, if_pos rfl]
    exact (new_zero s1 s2 A1 A2 n1 d1 n2 d2 p w h1 h2 hp).mono fun e w' ⟨he, hb⟩ => ⟨_, he, FO.zero _ _, hb⟩
  · rw [if_neg (by omega), if_neg (by omega), if_neg (by omega)]
    exact new_pos s1 s2 A1 A2 n1 d1 n2 d2 p q w h1 h2 hp hq h

end Go.Proofs.Ytlbjaimgoiimgaa

namespace Go.Proofs.Ytlbjaimgoiimgaa
open Go.RowKit

theorem fboxes2 {w : World} {s1 s2 s3 s4 : Int} {A1 A2 A3 A4 : Option Addr} {n1 d1 n2 d2 n3 d3 n4 d4 : Nat} {p1 q1 p2 q2 : Int} (h1 : FV w w.heap.size s1 A1 n1 d1 s2 A2 n2 d2 p1 q1) (h2 : FV w w.heap.size s3 A3 n3 d3 s4 A4 n4 d4 p2 q2) :
    ∃ W, W = ((w.alloc (.cells #[.int .i64 s1, .slice A1 n1 d1, .int .i64 s2, .slice A2 n2 d2] 40)).alloc (.cells #[.int .i64 s3, .slice A3 n3 d3, .int .i64 s4, .slice A4 n4 d4] 40)).alloc (.cells #[.int .i64 0, .slice none 0 0, .int .i64 0, .slice none 0 0] 40) ∧ Below w.heap.size w W ∧
      Bf 40 W w.heap.size s1 A1 n1 d1 s2 A2 n2 d2 p1 q1 ∧ Bf 40 W (w.heap.size + 1) s3 A3 n3 d3 s4 A4 n4 d4 p2 q2 ∧ Bz W (w.heap.size + 1 + 1) (.int .i64 0) (.slice none 0 0) (.int .i64 0) (.slice none 0 0) := by
  have hb1 : Below w.heap.size w (w.alloc (.cells #[.int .i64 s1, .slice A1 n1 d1, .int .i64 s2, .slice A2 n2 d2] 40)) := (Below.refl _ _).alloc (Nat.le_refl _) _
  have hb2 := hb1.alloc hb1.size (.cells #[.int .i64 s3, .slice A3 n3 d3, .int .i64 s4, .slice A4 n4 d4] 40)
  have hb3 := hb2.alloc hb2.size (.cells #[.int .i64 0, .slice none 0 0, .int .i64 0, .slice none 0 0] 40)
  have k1 := Blk.new w 40 #[.int .i64 s1, .slice A1 n1 d1, .int .i64 s2, .slice A2 n2 d2]
  have k2 := Blk.new (w.alloc (.cells #[.int .i64 s1, .slice A1 n1 d1, .int .i64 s2, .slice A2 n2 d2] 40)) 40 #[.int .i64 s3, .slice A3 n3 d3, .int .i64 s4, .slice A4 n4 d4]
  have k3 := Blk.new ((w.alloc (.cells #[.int .i64 s1, .slice A1 n1 d1, .int .i64 s2, .slice A2 n2 d2] 40)).alloc (.cells #[.int .i64 s3, .slice A3 n3 d3, .int .i64 s4, .slice A4 n4 d4] 40)) 40 #[.int .i64 0, .slice none 0 0, .int .i64 0, .slice none 0 0]
  simp only [World.size_alloc] at k2 k3
  exact ⟨_, rfl, hb3, ⟨(k1.alloc _).alloc _, h1.later hb3⟩, ⟨k2.alloc _, h2.later hb3⟩, ⟨k3⟩⟩

set_option maxRecDepth 100000 in
set_option maxHeartbeats 8000000 in
theorem multiply_fit (s1 s2 s3 s4 : Int) (A1 A2 A3 A4 : Option Addr) (n1 d1 n2 d2 n3 d3 n4 d4 : Nat) (p1 q1 p2 q2 : Int) (w : World) (ha : FV w w.heap.size s1 A1 n1 d1 s2 A2 n2 d2 p1 q1) (hb : FV w w.heap.size s3 A3 n3 d3 s4 A4 n4 d4 p2 q2) (h1 : ab p1 < pw 60) (h2 : ab q1 < pw 60) (h3 : ab p2 < pw 60) (h4 : ab q2 < pw 60) (hf : ab (p1 * p2) < pw 60 ∧ ab (q1 * q2) < pw 60) :
    Calls Try.prog 52 #[.agg #[.int .i64 s1, .slice A1 n1 d1, .int .i64 s2, .slice A2 n2 d2], .agg #[.int .i64 s3, .slice A3 n3 d3, .int .i64 s4, .slice A4 n4 d4]] w (NewP (p1 * p2) (q1 * q2) w) := by
  have H1 := Lib.hid h1; clear h1
  have H2 := Lib.hid h2; clear h2
  have H3 := Lib.hid h3; clear h3
  have H4 := Lib.hid h4; clear h4
  obtain ⟨Em, hEm⟩ : ∃ z, fite (p1 * p2) = z := ⟨_, rfl⟩
  obtain ⟨Zm, hZm⟩ : ∃ z, fitz (p1 * p2) = z := ⟨_, rfl⟩
  obtain ⟨En, hEn⟩ : ∃ z, fite (q1 * q2) = z := ⟨_, rfl⟩
  obtain ⟨Zn, hZn⟩ : ∃ z, fitz (q1 * q2) = z := ⟨_, rfl⟩
  have hcs : Em = 0 ∧ En = 0 := ⟨hEm.symm.trans (if_pos hf.1), hEn.symm.trans (if_pos hf.2)⟩
  have hzm : p1 * p2 = Zm := (if_pos hf.1 : fitz (p1 * p2) = p1 * p2).symm.trans hZm
  have hzn : q1 * q2 = Zn := (if_pos hf.2 : fitz (q1 * q2) = q1 * q2).symm.trans hZn
  have hkm : ab Zm < pw 60 := by rw [← hzm]; exact hf.1
  have hkn : ab Zn < pw 60 := by rw [← hzn]; exact hf.2
  have HKm := Lib.hid hkm; clear hkm
  have HKn := Lib.hid hkn; clear hkn
  have HQm := Lib.hid hzm; clear hzm
  have HQn := Lib.hid hzn; clear hzn
  clear hf
  have HEm := Lib.hid hEm; clear hEm
  have HZm := Lib.hid hZm; clear hZm
  have HEn := Lib.hid hEn; clear hEn
  have HZn := Lib.hid hZn; clear hZn
  have HCS := Lib.hid hcs; clear hcs
  go_enter Try.func52, Try.ntmps52
  go_wp2_with fail
  obtain ⟨W0, hW, hbx, ka, kb, kR⟩ := fboxes2 ha hb
  rw [← hW]
  clear hW ha hb
  have hT := hbx
  have za0 := ka.c0
  have za1 := ka.c1
  have zb0 := kb.c0
  have zb1 := kb.c1
  go_wp2_with fail
  clear za0 za1
  clear zb0 zb1
  have ltm := kR.blk.lt
  (with_reducible refine (mul_any _ _ _ _ _ ka.fv.a kb.fv.a H1.out H3.out).mono ?_)
  rintro e u1 ⟨rm, rfl, hrm, hb9⟩
  have hT := hT.trans (hb9.mono hT.size)
  have ka := ka.below hb9
  have kb := kb.below hb9
  have kR := kR.below hb9
  rw [HEm.out]
  rw [HZm.out] at hrm
  obtain ⟨sm, Am, nm, cm, rfl⟩ := hrm.form
  have kay := ka.below ((Below.refl _ u1).alloc (Nat.le_refl _) (.cells #[.int .i64 sm, .slice Am nm cm] 38))
  have za2y := kay.c2
  have za3y := kay.c3
  have kby := kb.below ((Below.refl _ u1).alloc (Nat.le_refl _) (.cells #[.int .i64 sm, .slice Am nm cm] 38))
  have zb2y := kby.c2
  have zb3y := kby.c3
  go_wp2_with fail
  clear za2y za3y
  clear kay
  clear zb2y zb3y
  clear kby
  obtain ⟨Wm, hW, hbx, km⟩ := box1 hrm
  rw [← hW]
  clear hW
  have hT := hT.trans (hbx.mono hT.size)
  have ka := ka.below hbx
  have kb := kb.below hbx
  have kR := kR.below hbx
  have ltn := kR.blk.lt
  (with_reducible refine (mul_any _ _ _ _ _ ka.fv.b kb.fv.b H2.out H4.out).mono ?_)
  rintro e u2 ⟨rn, rfl, hrn, hb9⟩
  have hT := hT.trans (hb9.mono hT.size)
  have ka := ka.below hb9
  have kb := kb.below hb9
  have kR := kR.below hb9
  have km := km.below hb9
  rw [HEn.out]
  rw [HZn.out] at hrn
  obtain ⟨sn, An, nn, cn, rfl⟩ := hrn.form
  obtain ⟨e1, e2⟩ := HCS.out
  subst e1 e2
  have kmy := km.below ((Below.refl _ u2).alloc (Nat.le_refl _) (.cells #[.int .i64 sn, .slice An nn cn] 38))
  have zm0y := kmy.c0
  have zm1y := kmy.c1
  go_wp2_with fail
  clear zm0y zm1y
  clear kmy
  obtain ⟨Wn, hW, hbx, kn⟩ := box1 hrn
  rw [← hW]
  clear hW
  have hT := hT.trans (hbx.mono hT.size)
  have ka := ka.below hbx
  have kb := kb.below hbx
  have kR := kR.below hbx
  have km := km.below hbx
  have hlt := kR.blk.lt
  (with_reducible refine (new_any _ _ _ _ _ _ _ _ _ _ _ km.bv kn.bv HKm.out HKn.out).mono ?_)
  rintro e u3 ⟨rr, rfl, hrr, hb9⟩
  have hT := hT.trans (hb9.mono hT.size)
  have kR := kR.below hb9
  clear ka kb km kn
  rw [← HQm.out, ← HQn.out] at hrr
  rw [← HQn.out]
  obtain ⟨E, hE⟩ : ∃ E, newE (q1 * q2) = E := ⟨_, rfl⟩
  unfold NewP
  rw [hE]
  have HE := Lib.hid hE; clear hE
  obtain ⟨t1, C1, m1, e1, t2, C2, m2, e2, rfl, g1, g2⟩ := hrr
  have gR : w.heap.size ≤ w.heap.size + 1 + 1 := by omega
  have r0 := kR.blk.cell 0
  have r1 := kR.blk.cell 1
  have r2 := kR.blk.cell 2
  have r3 := kR.blk.cell 3
  have q0' := kR.blk.frozen 0
  have q1' := kR.blk.frozen 1
  have q2' := kR.blk.frozen 2
  have q3' := kR.blk.frozen 3
  simp at r0 r1 r2 r3
  have hbs := kR.blk.set4 (.int .i64 t1) (.slice C1 m1 e1) (.int .i64 t2) (.slice C2 m2 e2)
  have x0 := hbs.cell 0
  have x1 := hbs.cell 1
  have x2 := hbs.cell 2
  have x3 := hbs.cell 3
  simp at x0 x1 x2 x3
  go_wp2_with fail
  refine bodyPost_ret (v := .tuple #[.agg #[.int .i64 t1, .slice C1 m1 e1, .int .i64 t2, .slice C2 m2 e2], .int .i64 E]) (by simp [results, Try.results52, go_sem, x0, x1, x2, x3]) rfl ?_
  exact ⟨_, by rw [HE.out], FO.mk2 ((g1.far4 hlt _ _ _ _).mono (by omega)) ((g2.far4 hlt _ _ _ _).mono (by omega)), below_st4 hT gR _ _ _ _⟩

set_option maxRecDepth 100000 in
set_option maxHeartbeats 8000000 in
theorem multiply_full (s1 s2 s3 s4 : Int) (A1 A2 A3 A4 : Option Addr) (n1 d1 n2 d2 n3 d3 n4 d4 : Nat) (p1 q1 p2 q2 : Int) (w : World) (ha : FV w w.heap.size s1 A1 n1 d1 s2 A2 n2 d2 p1 q1) (hb : FV w w.heap.size s3 A3 n3 d3 s4 A4 n4 d4 p2 q2) (h1 : ab p1 < pw 60) (h2 : ab q1 < pw 60) (h3 : ab p2 < pw 60) (h4 : ab q2 < pw 60) (hf : ¬ (ab (p1 * p2) < pw 60 ∧ ab (q1 * q2) < pw 60)) :
    Calls Try.prog 52 #[.agg #[.int .i64 s1, .slice A1 n1 d1, .int .i64 s2, .slice A2 n2 d2], .agg #[.int .i64 s3, .slice A3 n3 d3, .int .i64 s4, .slice A4 n4 d4]] w fun e w' => e = .returned (.tuple #[.agg #[.int .i64 0, .slice none 0 0, .int .i64 0, .slice none 0 0], .int .i64 6]) ∧ Below w.heap.size w w' := by
  have H1 := Lib.hid h1; clear h1
  have H2 := Lib.hid h2; clear h2
  have H3 := Lib.hid h3; clear h3
  have H4 := Lib.hid h4; clear h4
  obtain ⟨Em, hEm⟩ : ∃ z, fite (p1 * p2) = z := ⟨_, rfl⟩
  obtain ⟨Zm, hZm⟩ : ∃ z, fitz (p1 * p2) = z := ⟨_, rfl⟩
  obtain ⟨En, hEn⟩ : ∃ z, fite (q1 * q2) = z := ⟨_, rfl⟩
  obtain ⟨Zn, hZn⟩ : ∃ z, fitz (q1 * q2) = z := ⟨_, rfl⟩
  have hcs : (Em = 6 ∧ En = 0) ∨ (Em = 0 ∧ En = 6) ∨ (Em = 6 ∧ En = 6) := by
    rw [← hEm, ← hEn]
    by_cases a : ab (p1 * p2) < pw 60
    · exact .inr (.inl ⟨if_pos a, if_neg (fun b => hf ⟨a, b⟩)⟩)
    · by_cases b : ab (q1 * q2) < pw 60
      · exact .inl ⟨if_neg a, if_pos b⟩
      · exact .inr (.inr ⟨if_neg a, if_neg b⟩)
  clear hf
  have HEm := Lib.hid hEm; clear hEm
  have HZm := Lib.hid hZm; clear hZm
  have HEn := Lib.hid hEn; clear hEn
  have HZn := Lib.hid hZn; clear hZn
  have HCS := Lib.hid hcs; clear hcs
  go_enter Try.func52, Try.ntmps52
  go_wp2_with fail
  obtain ⟨W0, hW, hbx, ka, kb, kR⟩ := fboxes2 ha hb
  rw [← hW]
  clear hW ha hb
  have hT := hbx
  have za0 := ka.c0
  have za1 := ka.c1
  have zb0 := kb.c0
  have zb1 := kb.c1
  go_wp2_with fail
  clear za0 za1
  clear zb0 zb1
  have ltm := kR.blk.lt
  (with_reducible refine (mul_any _ _ _ _ _ ka.fv.a kb.fv.a H1.out H3.out).mono ?_)
  rintro e u1 ⟨rm, rfl, hrm, hb9⟩
  have hT := hT.trans (hb9.mono hT.size)
  have ka := ka.below hb9
  have kb := kb.below hb9
  have kR := kR.below hb9
  rw [HEm.out]
  rw [HZm.out] at hrm
  obtain ⟨sm, Am, nm, cm, rfl⟩ := hrm.form
  have kay := ka.below ((Below.refl _ u1).alloc (Nat.le_refl _) (.cells #[.int .i64 sm, .slice Am nm cm] 38))
  have za2y := kay.c2
  have za3y := kay.c3
  have kby := kb.below ((Below.refl _ u1).alloc (Nat.le_refl _) (.cells #[.int .i64 sm, .slice Am nm cm] 38))
  have zb2y := kby.c2
  have zb3y := kby.c3
  go_wp2_with fail
  clear za2y za3y
  clear kay
  clear zb2y zb3y
  clear kby
  obtain ⟨Wm, hW, hbx, km⟩ := box1 hrm
  rw [← hW]
  clear hW
  have hT := hT.trans (hbx.mono hT.size)
  have ka := ka.below hbx
  have kb := kb.below hbx
  have kR := kR.below hbx
  have ltn := kR.blk.lt
  (with_reducible refine (mul_any _ _ _ _ _ ka.fv.b kb.fv.b H2.out H4.out).mono ?_)
  rintro e u2 ⟨rn, rfl, hrn, hb9⟩
  have hT := hT.trans (hb9.mono hT.size)
  have ka := ka.below hb9
  have kb := kb.below hb9
  have kR := kR.below hb9
  have km := km.below hb9
  rw [HEn.out]
  rw [HZn.out] at hrn
  obtain ⟨sn, An, nn, cn, rfl⟩ := hrn.form
  clear ka kb km
  have kR := kR.below ((Below.refl _ u2).alloc (Nat.le_refl _) (.cells #[.int .i64 sn, .slice An nn cn] 38))
  have hT := hT.alloc hT.size (.cells #[.int .i64 sn, .slice An nn cn] 38)
  have h60 : max (6 : Int) 0 = 6 := rfl
  have h06 : max (0 : Int) 6 = 6 := rfl
  have h66 : max (6 : Int) 6 = 6 := rfl
  rcases HCS.out with ⟨rfl, rfl⟩ | ⟨rfl, rfl⟩ | ⟨rfl, rfl⟩
  all_goals
    have gR : w.heap.size ≤ w.heap.size + 1 + 1 := by omega
    have r0 := kR.blk.cell 0
    have r1 := kR.blk.cell 1
    have r2 := kR.blk.cell 2
    have r3 := kR.blk.cell 3
    have q0' := kR.blk.frozen 0
    have q1' := kR.blk.frozen 1
    have q2' := kR.blk.frozen 2
    have q3' := kR.blk.frozen 3
    simp at r0 r1 r2 r3
    have hbs := kR.blk.set4 (.int .i64 0) (.slice none 0 0) (.int .i64 0) (.slice none 0 0)
    have x0 := hbs.cell 0
    have x1 := hbs.cell 1
    have x2 := hbs.cell 2
    have x3 := hbs.cell 3
    simp at x0 x1 x2 x3
    go_wp2_with fail
    refine bodyPost_ret (v := .tuple #[.agg #[.int .i64 0, .slice none 0 0, .int .i64 0, .slice none 0 0], .int .i64 6]) (by simp [results, Try.results52, go_sem, x0, x1, x2, x3]) rfl ?_
    exact ⟨rfl, below_st4 hT gR _ _ _ _⟩

end Go.Proofs.Ytlbjaimgoiimgaa

namespace Go.Proofs.Ytlbjaimgoiimgaa
open Go.RowKit

theorem FR.pos {p q : Int} (h : FR p q) : 0 < q := And.left h
theorem FR.one {p q : Int} (h : FR p q) : ((Int.gcd p q : Nat) : Int) = 1 := And.right h
/-- What is returned for P above and Q below, where there is room for both as they are formed. -/
def QE (P Q : Int) : Int := if ab P < pw 60 ∧ ab Q < pw 60 then newE Q else 6
def QN (P Q : Int) : Int := if ab P < pw 60 ∧ ab Q < pw 60 then newN P Q else 0
def QD (P Q : Int) : Int := if ab P < pw 60 ∧ ab Q < pw 60 then newD P Q else 0
def QP (P Q : Int) (w : World) (e : Ending) (w' : World) : Prop := ∃ r, e = .returned (.tuple #[r, .int .i64 (QE P Q)]) ∧ FO w' w.heap.size r (QN P Q) (QD P Q) ∧ Below w.heap.size w w'
theorem multiply_any (s1 s2 s3 s4 : Int) (A1 A2 A3 A4 : Option Addr) (n1 d1 n2 d2 n3 d3 n4 d4 : Nat) (p1 q1 p2 q2 : Int) (w : World) (ha : FV w w.heap.size s1 A1 n1 d1 s2 A2 n2 d2 p1 q1) (hb : FV w w.heap.size s3 A3 n3 d3 s4 A4 n4 d4 p2 q2) (h1 : ab p1 < pw 60) (h2 : ab q1 < pw 60) (h3 : ab p2 < pw 60) (h4 : ab q2 < pw 60) :
    Calls Try.prog 52 #[.agg #[.int .i64 s1, .slice A1 n1 d1, .int .i64 s2, .slice A2 n2 d2], .agg #[.int .i64 s3, .slice A3 n3 d3, .int .i64 s4, .slice A4 n4 d4]] w (QP (p1 * p2) (q1 * q2) w) := by
  by_cases hf : ab (p1 * p2) < pw 60 ∧ ab (q1 * q2) < pw 60
  · have h := multiply_fit s1 s2 s3 s4 A1 A2 A3 A4 n1 d1 n2 d2 n3 d3 n4 d4 p1 q1 p2 q2 w ha hb h1 h2 h3 h4 hf
    unfold QP QE QN QD
    rw [if_pos hf, if_pos hf, if_pos hf]
    exact h
  · have h := multiply_full s1 s2 s3 s4 A1 A2 A3 A4 n1 d1 n2 d2 n3 d3 n4 d4 p1 q1 p2 q2 w ha hb h1 h2 h3 h4 hf
    unfold QP QE QN QD
    rw [if_neg hf, if_neg hf, if_neg hf]
    exact h.mono fun e w' ⟨he, hb⟩ => ⟨_, he, FO.zero _ _, hb⟩

set_option maxRecDepth 100000 in
set_option maxHeartbeats 8000000 in
theorem fmul_any (s1 s2 s3 s4 : Int) (A1 A2 A3 A4 : Option Addr) (n1 d1 n2 d2 n3 d3 n4 d4 : Nat) (p1 q1 p2 q2 : Int) (w : World) (ha : FV w w.heap.size s1 A1 n1 d1 s2 A2 n2 d2 p1 q1) (hb : FV w w.heap.size s3 A3 n3 d3 s4 A4 n4 d4 p2 q2) (h1 : ab p1 < pw 60) (h2 : ab q1 < pw 60) (h3 : ab p2 < pw 60) (h4 : ab q2 < pw 60) (f1 : FR p1 q1) (f2 : FR p2 q2) :
    Calls Try.prog 36 #[.agg #[.int .i64 s1, .slice A1 n1 d1, .int .i64 s2, .slice A2 n2 d2], .agg #[.int .i64 s3, .slice A3 n3 d3, .int .i64 s4, .slice A4 n4 d4]] w (QP (p1 * p2) (q1 * q2) w) := by
  have H1 := Lib.hid h1; clear h1
  have H2 := Lib.hid h2; clear h2
  have H3 := Lib.hid h3; clear h3
  have H4 := Lib.hid h4; clear h4
  have F1 := Lib.hid f1; clear f1
  have F2 := Lib.hid f2; clear f2
  unfold QP
  obtain ⟨E, hE⟩ : ∃ E, QE (p1 * p2) (q1 * q2) = E := ⟨_, rfl⟩
  obtain ⟨P, hP⟩ : ∃ E, QN (p1 * p2) (q1 * q2) = E := ⟨_, rfl⟩
  obtain ⟨Q, hQ⟩ : ∃ E, QD (p1 * p2) (q1 * q2) = E := ⟨_, rfl⟩
  rw [hE, hP, hQ]
  have HE := Lib.hid hE; clear hE
  have HP := Lib.hid hP; clear hP
  have HQ := Lib.hid hQ; clear hQ
  go_enter Try.func36, Try.ntmps36
  go_wp2_with fail
  obtain ⟨W0, hW, hbx, ka, kb, kR⟩ := fboxes2 ha hb
  rw [← hW]
  clear hW ha hb
  have hT := hbx
  have za0 := ka.c0
  have za1 := ka.c1
  have za2 := ka.c2
  have za3 := ka.c3
  go_wp2_with fail
  clear za0 za1 za2 za3
  (with_reducible refine (fright_pos _ ka.fv H1.out H2.out (FR.pos F1.out) true (decide_eq_true (FR.one F1.out))).mono ?_)
  rintro e u1 ⟨rfl, hb9⟩
  have hT := hT.trans (hb9.mono hT.size)
  have ka := ka.below hb9
  have kb := kb.below hb9
  have kR := kR.below hb9
  have zb0 := kb.c0
  have zb1 := kb.c1
  have zb2 := kb.c2
  have zb3 := kb.c3
  go_wp2_with fail
  clear zb0 zb1 zb2 zb3
  (with_reducible refine (fright_pos _ kb.fv H3.out H4.out (FR.pos F2.out) true (decide_eq_true (FR.one F2.out))).mono ?_)
  rintro e u2 ⟨rfl, hb9⟩
  have hT := hT.trans (hb9.mono hT.size)
  have ka := ka.below hb9
  have kb := kb.below hb9
  have kR := kR.below hb9
  have za0 := ka.c0
  have za1 := ka.c1
  have za2 := ka.c2
  have za3 := ka.c3
  have zb0 := kb.c0
  have zb1 := kb.c1
  have zb2 := kb.c2
  have zb3 := kb.c3
  go_wp2_with fail
  clear za0 za1 za2 za3
  clear zb0 zb1 zb2 zb3
  (with_reducible refine (multiply_any _ _ _ _ _ _ _ _ _ _ _ _ _ _ _ _ _ _ _ _ _ ka.fv kb.fv H1.out H2.out H3.out H4.out).mono ?_)
  have hlt := kR.blk.lt
  rintro e u3 ⟨rr, rfl, hrr, hb9⟩
  have hT := hT.trans (hb9.mono hT.size)
  have kR := kR.below hb9
  clear ka kb
  rw [HP.out, HQ.out] at hrr
  rw [HE.out]
  obtain ⟨t1, C1, m1, e1, t2, C2, m2, e2, rfl, g1, g2⟩ := hrr
  have gR : w.heap.size ≤ w.heap.size + 1 + 1 := by omega
  have r0 := kR.blk.cell 0
  have r1 := kR.blk.cell 1
  have r2 := kR.blk.cell 2
  have r3 := kR.blk.cell 3
  have q0' := kR.blk.frozen 0
  have q1' := kR.blk.frozen 1
  have q2' := kR.blk.frozen 2
  have q3' := kR.blk.frozen 3
  simp at r0 r1 r2 r3
  have hbs := kR.blk.set4 (.int .i64 t1) (.slice C1 m1 e1) (.int .i64 t2) (.slice C2 m2 e2)
  have x0 := hbs.cell 0
  have x1 := hbs.cell 1
  have x2 := hbs.cell 2
  have x3 := hbs.cell 3
  simp at x0 x1 x2 x3
  go_wp2_with fail
  refine bodyPost_ret (v := .tuple #[.agg #[.int .i64 t1, .slice C1 m1 e1, .int .i64 t2, .slice C2 m2 e2], .int .i64 E]) (by simp [results, Try.results36, go_sem, x0, x1, x2, x3]) rfl ?_
  exact ⟨_, rfl, FO.mk2 ((g1.far4 hlt _ _ _ _).mono (by omega)) ((g2.far4 hlt _ _ _ _).mono (by omega)), below_st4 hT gR _ _ _ _⟩

set_option maxRecDepth 100000 in
set_option maxHeartbeats 8000000 in
theorem fdiv_any (s1 s2 s3 s4 : Int) (A1 A2 A3 A4 : Option Addr) (n1 d1 n2 d2 n3 d3 n4 d4 : Nat) (p1 q1 p2 q2 : Int) (w : World) (ha : FV w w.heap.size s1 A1 n1 d1 s2 A2 n2 d2 p1 q1) (hb : FV w w.heap.size s3 A3 n3 d3 s4 A4 n4 d4 p2 q2) (h1 : ab p1 < pw 60) (h2 : ab q1 < pw 60) (h3 : ab p2 < pw 60) (h4 : ab q2 < pw 60) (f1 : FR p1 q1) (f2 : FR p2 q2) :
    Calls Try.prog 77 #[.agg #[.int .i64 s1, .slice A1 n1 d1, .int .i64 s2, .slice A2 n2 d2], .agg #[.int .i64 s3, .slice A3 n3 d3, .int .i64 s4, .slice A4 n4 d4]] w (QP (p1 * q2) (q1 * p2) w) := by
  have H1 := Lib.hid h1; clear h1
  have H2 := Lib.hid h2; clear h2
  have H3 := Lib.hid h3; clear h3
  have H4 := Lib.hid h4; clear h4
  have F1 := Lib.hid f1; clear f1
  have F2 := Lib.hid f2; clear f2
  unfold QP
  obtain ⟨E, hE⟩ : ∃ E, QE (p1 * q2) (q1 * p2) = E := ⟨_, rfl⟩
  obtain ⟨P, hP⟩ : ∃ E, QN (p1 * q2) (q1 * p2) = E := ⟨_, rfl⟩
  obtain ⟨Q, hQ⟩ : ∃ E, QD (p1 * q2) (q1 * p2) = E := ⟨_, rfl⟩
  rw [hE, hP, hQ]
  have HE := Lib.hid hE; clear hE
  have HP := Lib.hid hP; clear hP
  have HQ := Lib.hid hQ; clear hQ
  go_enter Try.func77, Try.ntmps77
  go_wp2_with fail
  obtain ⟨W0, hW, hbx, ka, kb, kR⟩ := fboxes2 ha hb
  rw [← hW]
  clear hW ha hb
  have hT := hbx
  have za0 := ka.c0
  have za1 := ka.c1
  have za2 := ka.c2
  have za3 := ka.c3
  go_wp2_with fail
  clear za0 za1 za2 za3
  (with_reducible refine (fright_pos _ ka.fv H1.out H2.out (FR.pos F1.out) true (decide_eq_true (FR.one F1.out))).mono ?_)
  rintro e u1 ⟨rfl, hb9⟩
  have hT := hT.trans (hb9.mono hT.size)
  have ka := ka.below hb9
  have kb := kb.below hb9
  have kR := kR.below hb9
  have zb0 := kb.c0
  have zb1 := kb.c1
  have zb2 := kb.c2
  have zb3 := kb.c3
  go_wp2_with fail
  clear zb0 zb1 zb2 zb3
  (with_reducible refine (fright_pos _ kb.fv H3.out H4.out (FR.pos F2.out) true (decide_eq_true (FR.one F2.out))).mono ?_)
  rintro e u2 ⟨rfl, hb9⟩
  have hT := hT.trans (hb9.mono hT.size)
  have ka := ka.below hb9
  have kb := kb.below hb9
  have kR := kR.below hb9
  have za0 := ka.c0
  have za1 := ka.c1
  have za2 := ka.c2
  have za3 := ka.c3
  have zb0 := kb.c0
  have zb1 := kb.c1
  have zb2 := kb.c2
  have zb3 := kb.c3
  go_wp2_with fail
  clear za0 za1 za2 za3
  clear zb0 zb1 zb2 zb3
  (with_reducible refine (multiply_any _ _ _ _ _ _ _ _ _ _ _ _ _ _ _ _ _ _ _ _ _ ka.fv ⟨kb.fv.b, kb.fv.a⟩ H1.out H2.out H4.out H3.out).mono ?_)
  have hlt := kR.blk.lt
  rintro e u3 ⟨rr, rfl, hrr, hb9⟩
  have hT := hT.trans (hb9.mono hT.size)
  have kR := kR.below hb9
  clear ka kb
  rw [HP.out, HQ.out] at hrr
  rw [HE.out]
  obtain ⟨t1, C1, m1, e1, t2, C2, m2, e2, rfl, g1, g2⟩ := hrr
  have gR : w.heap.size ≤ w.heap.size + 1 + 1 := by omega
  have r0 := kR.blk.cell 0
  have r1 := kR.blk.cell 1
  have r2 := kR.blk.cell 2
  have r3 := kR.blk.cell 3
  have q0' := kR.blk.frozen 0
  have q1' := kR.blk.frozen 1
  have q2' := kR.blk.frozen 2
  have q3' := kR.blk.frozen 3
  simp at r0 r1 r2 r3
  have hbs := kR.blk.set4 (.int .i64 t1) (.slice C1 m1 e1) (.int .i64 t2) (.slice C2 m2 e2)
  have x0 := hbs.cell 0
  have x1 := hbs.cell 1
  have x2 := hbs.cell 2
  have x3 := hbs.cell 3
  simp at x0 x1 x2 x3
  go_wp2_with fail
  refine bodyPost_ret (v := .tuple #[.agg #[.int .i64 t1, .slice C1 m1 e1, .int .i64 t2, .slice C2 m2 e2], .int .i64 E]) (by simp [results, Try.results77, go_sem, x0, x1, x2, x3]) rfl ?_
  exact ⟨_, rfl, FO.mk2 ((g1.far4 hlt _ _ _ _).mono (by omega)) ((g2.far4 hlt _ _ _ _).mono (by omega)), below_st4 hT gR _ _ _ _⟩

end Go.Proofs.Ytlbjaimgoiimgaa

namespace Go.Proofs.Ytlbjaimgoiimgaa
open Go.RowKit

theorem max4 (P : Program) (W : World) (ts : Array TypeId) (t : TypeId) : (Builtin.max_ ts t #[.int .i64 0, .int .i64 0, .int .i64 0, .int .i64 0]).run P W = .ok (.int .i64 0) W := by
  simp [Builtin.max_, Builtin.max2]

set_option maxRecDepth 100000 in
set_option maxHeartbeats 8000000 in
theorem combine_add (s1 s2 s3 s4 : Int) (A1 A2 A3 A4 : Option Addr) (n1 d1 n2 d2 n3 d3 n4 d4 : Nat) (p1 q1 p2 q2 : Int) (w : World) (ha : FV w w.heap.size s1 A1 n1 d1 s2 A2 n2 d2 p1 q1) (hb : FV w w.heap.size s3 A3 n3 d3 s4 A4 n4 d4 p2 q2) (h1 : ab p1 < pw 60) (h2 : ab q1 < pw 60) (h3 : ab p2 < pw 60) (h4 : ab q2 < pw 60) (f1 : FR p1 q1) (f2 : FR p2 q2) (c1 : ab (p1 * q2) < pw 60) (c2 : ab (p2 * q1) < pw 60) (c3 : ab (p1 * q2 + p2 * q1) < pw 60) (c4 : ab (q1 * q2) < pw 60) :
    Calls Try.prog 37 #[.agg #[.int .i64 s1, .slice A1 n1 d1, .int .i64 s2, .slice A2 n2 d2], .agg #[.int .i64 s3, .slice A3 n3 d3, .int .i64 s4, .slice A4 n4 d4], .func (.func 38) #[] #[]] w (NewP (p1 * q2 + p2 * q1) (q1 * q2) w) := by
  have H1 := Lib.hid h1; clear h1
  have H2 := Lib.hid h2; clear h2
  have H3 := Lib.hid h3; clear h3
  have H4 := Lib.hid h4; clear h4
  have F1 := Lib.hid f1; clear f1
  have F2 := Lib.hid f2; clear f2
  have HKm := Lib.hid c1; clear c1
  have HKn := Lib.hid c2; clear c2
  have HKs := Lib.hid c3; clear c3
  have HKt := Lib.hid c4; clear c4
  have HFm := Lib.hid (fits HKm.out)
  have HFn := Lib.hid (fits HKn.out)
  have HFs := Lib.hid (fits HKs.out)
  have HFt := Lib.hid (fits HKt.out)
  unfold NewP
  obtain ⟨E, hE⟩ : ∃ E, newE (q1 * q2) = E := ⟨_, rfl⟩
  obtain ⟨P, hP⟩ : ∃ E, newN (p1 * q2 + p2 * q1) (q1 * q2) = E := ⟨_, rfl⟩
  obtain ⟨Q, hQ⟩ : ∃ E, newD (p1 * q2 + p2 * q1) (q1 * q2) = E := ⟨_, rfl⟩
  rw [hE, hP, hQ]
  have HE := Lib.hid hE; clear hE
  have HP := Lib.hid hP; clear hP
  have HQ := Lib.hid hQ; clear hQ
  go_enter Try.func37, Try.ntmps37
  go_wp2_with fail
  obtain ⟨W0, hW, hbx, ka, kb, kR⟩ := fboxes2 ha hb
  rw [← hW]
  clear hW ha hb
  have hT := hbx
  have za0 := ka.c0
  have za1 := ka.c1
  have za2 := ka.c2
  have za3 := ka.c3
  go_wp2_with fail
  clear za0 za1 za2 za3
  (with_reducible refine (fright_pos _ ka.fv H1.out H2.out (FR.pos F1.out) true (decide_eq_true (FR.one F1.out))).mono ?_)
  rintro e u1 ⟨rfl, hb9⟩
  have hT := hT.trans (hb9.mono hT.size)
  have ka := ka.below hb9
  have kb := kb.below hb9
  have kR := kR.below hb9
  have zb0 := kb.c0
  have zb1 := kb.c1
  have zb2 := kb.c2
  have zb3 := kb.c3
  go_wp2_with fail
  clear zb0 zb1 zb2 zb3
  (with_reducible refine (fright_pos _ kb.fv H3.out H4.out (FR.pos F2.out) true (decide_eq_true (FR.one F2.out))).mono ?_)
  rintro e u2 ⟨rfl, hb9⟩
  have hT := hT.trans (hb9.mono hT.size)
  have ka := ka.below hb9
  have kb := kb.below hb9
  have kR := kR.below hb9
  have za0 := ka.c0
  have za1 := ka.c1
  have zb2 := kb.c2
  have zb3 := kb.c3
  go_wp2_with fail
  clear za0 za1
  clear zb2 zb3
  (with_reducible refine (mul_any _ _ _ _ _ ka.fv.a kb.fv.b H1.out H4.out).mono ?_)
  rintro e u3 ⟨rm, rfl, hrm, hb9⟩
  have hT := hT.trans (hb9.mono hT.size)
  have ka := ka.below hb9
  have kb := kb.below hb9
  have kR := kR.below hb9
  rw [HFm.out.1]
  rw [HFm.out.2] at hrm
  obtain ⟨sm, Am, nm, cm, rfl⟩ := hrm.form
  have kby := kb.below ((Below.refl _ u3).alloc (Nat.le_refl _) (.cells #[.int .i64 sm, .slice Am nm cm] 38))
  have zb0y := kby.c0
  have zb1y := kby.c1
  have kay := ka.below ((Below.refl _ u3).alloc (Nat.le_refl _) (.cells #[.int .i64 sm, .slice Am nm cm] 38))
  have za2y := kay.c2
  have za3y := kay.c3
  go_wp2_with fail
  clear zb0y zb1y
  clear kby
  clear za2y za3y
  clear kay
  obtain ⟨Wm, hW, hbx, km⟩ := box1 hrm
  rw [← hW]
  clear hW
  have hT := hT.trans (hbx.mono hT.size)
  have ka := ka.below hbx
  have kb := kb.below hbx
  have kR := kR.below hbx
  (with_reducible refine (mul_any _ _ _ _ _ kb.fv.a ka.fv.b H3.out H2.out).mono ?_)
  rintro e u4 ⟨rn, rfl, hrn, hb9⟩
  have hT := hT.trans (hb9.mono hT.size)
  have ka := ka.below hb9
  have kb := kb.below hb9
  have kR := kR.below hb9
  have km := km.below hb9
  rw [HFn.out.1]
  rw [HFn.out.2] at hrn
  obtain ⟨sn, An, nn, cn, rfl⟩ := hrn.form
  have kmy := km.below ((Below.refl _ u4).alloc (Nat.le_refl _) (.cells #[.int .i64 sn, .slice An nn cn] 38))
  have zm0y := kmy.c0
  have zm1y := kmy.c1
  go_wp2_with fail
  clear zm0y zm1y
  clear kmy
  obtain ⟨Wn, hW, hbx, kn⟩ := box1 hrn
  rw [← hW]
  clear hW
  have hT := hT.trans (hbx.mono hT.size)
  have ka := ka.below hbx
  have kb := kb.below hbx
  have kR := kR.below hbx
  have km := km.below hbx
  (with_reducible refine (add_any _ _ _ _ _ km.bv kn.bv HKm.out HKn.out).mono ?_)
  rintro e u5 ⟨rs, rfl, hrs, hb9⟩
  have hT := hT.trans (hb9.mono hT.size)
  have ka := ka.below hb9
  have kb := kb.below hb9
  have kR := kR.below hb9
  have km := km.below hb9
  have kn := kn.below hb9
  rw [HFs.out.1]
  rw [HFs.out.2] at hrs
  obtain ⟨ss, As, ns, cs, rfl⟩ := hrs.form
  have kay := ka.below ((Below.refl _ u5).alloc (Nat.le_refl _) (.cells #[.int .i64 ss, .slice As ns cs] 38))
  have za2y := kay.c2
  have za3y := kay.c3
  have kby := kb.below ((Below.refl _ u5).alloc (Nat.le_refl _) (.cells #[.int .i64 ss, .slice As ns cs] 38))
  have zb2y := kby.c2
  have zb3y := kby.c3
  go_wp2_with fail
  clear za2y za3y
  clear kay
  clear zb2y zb3y
  clear kby
  obtain ⟨Ws, hW, hbx, ks⟩ := box1 hrs
  rw [← hW]
  clear hW
  have hT := hT.trans (hbx.mono hT.size)
  have ka := ka.below hbx
  have kb := kb.below hbx
  have kR := kR.below hbx
  have km := km.below hbx
  have kn := kn.below hbx
  (with_reducible refine (mul_any _ _ _ _ _ ka.fv.b kb.fv.b H2.out H4.out).mono ?_)
  rintro e u6 ⟨rt, rfl, hrt, hb9⟩
  have hT := hT.trans (hb9.mono hT.size)
  have ka := ka.below hb9
  have kb := kb.below hb9
  have kR := kR.below hb9
  have km := km.below hb9
  have kn := kn.below hb9
  have ks := ks.below hb9
  rw [HFt.out.1]
  rw [HFt.out.2] at hrt
  obtain ⟨st, At, nt, ct, rfl⟩ := hrt.form
  have hmx := fun (W : World) (ts : Array TypeId) (t : TypeId) => max4 Try.prog W ts t
  have ksy := ks.below ((Below.refl _ u6).alloc (Nat.le_refl _) (.cells #[.int .i64 st, .slice At nt ct] 38))
  have zs0y := ksy.c0
  have zs1y := ksy.c1
  go_wp2_with fail
  clear zs0y zs1y
  clear ksy
  obtain ⟨Wt, hW, hbx, kt⟩ := box1 hrt
  rw [← hW]
  clear hW
  have hT := hT.trans (hbx.mono hT.size)
  have ka := ka.below hbx
  have kb := kb.below hbx
  have kR := kR.below hbx
  have km := km.below hbx
  have kn := kn.below hbx
  have ks := ks.below hbx
  have hlt := kR.blk.lt
  (with_reducible refine (new_any _ _ _ _ _ _ _ _ _ _ _ ks.bv kt.bv HKs.out HKt.out).mono ?_)
  rintro e u7 ⟨rr, rfl, hrr, hb9⟩
  have hT := hT.trans (hb9.mono hT.size)
  have kR := kR.below hb9
  clear ka kb km kn ks kt
  rw [HP.out, HQ.out] at hrr
  rw [HE.out]
  obtain ⟨t1, C1, m1, e1, t2, C2, m2, e2, rfl, g1, g2⟩ := hrr
  have gR : w.heap.size ≤ w.heap.size + 1 + 1 := by omega
  have r0 := kR.blk.cell 0
  have r1 := kR.blk.cell 1
  have r2 := kR.blk.cell 2
  have r3 := kR.blk.cell 3
  have q0' := kR.blk.frozen 0
  have q1' := kR.blk.frozen 1
  have q2' := kR.blk.frozen 2
  have q3' := kR.blk.frozen 3
  simp at r0 r1 r2 r3
  have hbs := kR.blk.set4 (.int .i64 t1) (.slice C1 m1 e1) (.int .i64 t2) (.slice C2 m2 e2)
  have x0 := hbs.cell 0
  have x1 := hbs.cell 1
  have x2 := hbs.cell 2
  have x3 := hbs.cell 3
  simp at x0 x1 x2 x3
  go_wp2_with fail
  refine bodyPost_ret (v := .tuple #[.agg #[.int .i64 t1, .slice C1 m1 e1, .int .i64 t2, .slice C2 m2 e2], .int .i64 E]) (by simp [results, Try.results37, go_sem, x0, x1, x2, x3]) rfl ?_
  exact ⟨_, rfl, FO.mk2 ((g1.far4 hlt _ _ _ _).mono (by omega)) ((g2.far4 hlt _ _ _ _).mono (by omega)), below_st4 hT gR _ _ _ _⟩

set_option maxRecDepth 100000 in
set_option maxHeartbeats 8000000 in
theorem combine_sub (s1 s2 s3 s4 : Int) (A1 A2 A3 A4 : Option Addr) (n1 d1 n2 d2 n3 d3 n4 d4 : Nat) (p1 q1 p2 q2 : Int) (w : World) (ha : FV w w.heap.size s1 A1 n1 d1 s2 A2 n2 d2 p1 q1) (hb : FV w w.heap.size s3 A3 n3 d3 s4 A4 n4 d4 p2 q2) (h1 : ab p1 < pw 60) (h2 : ab q1 < pw 60) (h3 : ab p2 < pw 60) (h4 : ab q2 < pw 60) (f1 : FR p1 q1) (f2 : FR p2 q2) (c1 : ab (p1 * q2) < pw 60) (c2 : ab (p2 * q1) < pw 60) (c3 : ab (p1 * q2 - p2 * q1) < pw 60) (c4 : ab (q1 * q2) < pw 60) :
    Calls Try.prog 37 #[.agg #[.int .i64 s1, .slice A1 n1 d1, .int .i64 s2, .slice A2 n2 d2], .agg #[.int .i64 s3, .slice A3 n3 d3, .int .i64 s4, .slice A4 n4 d4], .func (.func 44) #[] #[]] w (NewP (p1 * q2 - p2 * q1) (q1 * q2) w) := by
  have H1 := Lib.hid h1; clear h1
  have H2 := Lib.hid h2; clear h2
  have H3 := Lib.hid h3; clear h3
  have H4 := Lib.hid h4; clear h4
  have F1 := Lib.hid f1; clear f1
  have F2 := Lib.hid f2; clear f2
  have HKm := Lib.hid c1; clear c1
  have HKn := Lib.hid c2; clear c2
  have HKs := Lib.hid c3; clear c3
  have HKt := Lib.hid c4; clear c4
  have HFm := Lib.hid (fits HKm.out)
  have HFn := Lib.hid (fits HKn.out)
  have HFs := Lib.hid (fits HKs.out)
  have HFt := Lib.hid (fits HKt.out)
  unfold NewP
  obtain ⟨E, hE⟩ : ∃ E, newE (q1 * q2) = E := ⟨_, rfl⟩
  obtain ⟨P, hP⟩ : ∃ E, newN (p1 * q2 - p2 * q1) (q1 * q2) = E := ⟨_, rfl⟩
  obtain ⟨Q, hQ⟩ : ∃ E, newD (p1 * q2 - p2 * q1) (q1 * q2) = E := ⟨_, rfl⟩
  rw [hE, hP, hQ]
  have HE := Lib.hid hE; clear hE
  have HP := Lib.hid hP; clear hP
  have HQ := Lib.hid hQ; clear hQ
  go_enter Try.func37, Try.ntmps37
  go_wp2_with fail
  obtain ⟨W0, hW, hbx, ka, kb, kR⟩ := fboxes2 ha hb
  rw [← hW]
  clear hW ha hb
  have hT := hbx
  have za0 := ka.c0
  have za1 := ka.c1
  have za2 := ka.c2
  have za3 := ka.c3
  go_wp2_with fail
  clear za0 za1 za2 za3
  (with_reducible refine (fright_pos _ ka.fv H1.out H2.out (FR.pos F1.out) true (decide_eq_true (FR.one F1.out))).mono ?_)
  rintro e u1 ⟨rfl, hb9⟩
  have hT := hT.trans (hb9.mono hT.size)
  have ka := ka.below hb9
  have kb := kb.below hb9
  have kR := kR.below hb9
  have zb0 := kb.c0
  have zb1 := kb.c1
  have zb2 := kb.c2
  have zb3 := kb.c3
  go_wp2_with fail
  clear zb0 zb1 zb2 zb3
  (with_reducible refine (fright_pos _ kb.fv H3.out H4.out (FR.pos F2.out) true (decide_eq_true (FR.one F2.out))).mono ?_)
  rintro e u2 ⟨rfl, hb9⟩
  have hT := hT.trans (hb9.mono hT.size)
  have ka := ka.below hb9
  have kb := kb.below hb9
  have kR := kR.below hb9
  have za0 := ka.c0
  have za1 := ka.c1
  have zb2 := kb.c2
  have zb3 := kb.c3
  go_wp2_with fail
  clear za0 za1
  clear zb2 zb3
  (with_reducible refine (mul_any _ _ _ _ _ ka.fv.a kb.fv.b H1.out H4.out).mono ?_)
  rintro e u3 ⟨rm, rfl, hrm, hb9⟩
  have hT := hT.trans (hb9.mono hT.size)
  have ka := ka.below hb9
  have kb := kb.below hb9
  have kR := kR.below hb9
  rw [HFm.out.1]
  rw [HFm.out.2] at hrm
  obtain ⟨sm, Am, nm, cm, rfl⟩ := hrm.form
  have kby := kb.below ((Below.refl _ u3).alloc (Nat.le_refl _) (.cells #[.int .i64 sm, .slice Am nm cm] 38))
  have zb0y := kby.c0
  have zb1y := kby.c1
  have kay := ka.below ((Below.refl _ u3).alloc (Nat.le_refl _) (.cells #[.int .i64 sm, .slice Am nm cm] 38))
  have za2y := kay.c2
  have za3y := kay.c3
  go_wp2_with fail
  clear zb0y zb1y
  clear kby
  clear za2y za3y
  clear kay
  obtain ⟨Wm, hW, hbx, km⟩ := box1 hrm
  rw [← hW]
  clear hW
  have hT := hT.trans (hbx.mono hT.size)
  have ka := ka.below hbx
  have kb := kb.below hbx
  have kR := kR.below hbx
  (with_reducible refine (mul_any _ _ _ _ _ kb.fv.a ka.fv.b H3.out H2.out).mono ?_)
  rintro e u4 ⟨rn, rfl, hrn, hb9⟩
  have hT := hT.trans (hb9.mono hT.size)
  have ka := ka.below hb9
  have kb := kb.below hb9
  have kR := kR.below hb9
  have km := km.below hb9
  rw [HFn.out.1]
  rw [HFn.out.2] at hrn
  obtain ⟨sn, An, nn, cn, rfl⟩ := hrn.form
  have kmy := km.below ((Below.refl _ u4).alloc (Nat.le_refl _) (.cells #[.int .i64 sn, .slice An nn cn] 38))
  have zm0y := kmy.c0
  have zm1y := kmy.c1
  go_wp2_with fail
  clear zm0y zm1y
  clear kmy
  obtain ⟨Wn, hW, hbx, kn⟩ := box1 hrn
  rw [← hW]
  clear hW
  have hT := hT.trans (hbx.mono hT.size)
  have ka := ka.below hbx
  have kb := kb.below hbx
  have kR := kR.below hbx
  have km := km.below hbx
  (with_reducible refine (sub_any _ _ _ _ _ km.bv kn.bv HKm.out HKn.out).mono ?_)
  rintro e u5 ⟨rs, rfl, hrs, hb9⟩
  have hT := hT.trans (hb9.mono hT.size)
  have ka := ka.below hb9
  have kb := kb.below hb9
  have kR := kR.below hb9
  have km := km.below hb9
  have kn := kn.below hb9
  rw [HFs.out.1]
  rw [HFs.out.2] at hrs
  obtain ⟨ss, As, ns, cs, rfl⟩ := hrs.form
  have kay := ka.below ((Below.refl _ u5).alloc (Nat.le_refl _) (.cells #[.int .i64 ss, .slice As ns cs] 38))
  have za2y := kay.c2
  have za3y := kay.c3
  have kby := kb.below ((Below.refl _ u5).alloc (Nat.le_refl _) (.cells #[.int .i64 ss, .slice As ns cs] 38))
  have zb2y := kby.c2
  have zb3y := kby.c3
  go_wp2_with fail
  clear za2y za3y
  clear kay
  clear zb2y zb3y
  clear kby
  obtain ⟨Ws, hW, hbx, ks⟩ := box1 hrs
  rw [← hW]
  clear hW
  have hT := hT.trans (hbx.mono hT.size)
  have ka := ka.below hbx
  have kb := kb.below hbx
  have kR := kR.below hbx
  have km := km.below hbx
  have kn := kn.below hbx
  (with_reducible refine (mul_any _ _ _ _ _ ka.fv.b kb.fv.b H2.out H4.out).mono ?_)
  rintro e u6 ⟨rt, rfl, hrt, hb9⟩
  have hT := hT.trans (hb9.mono hT.size)
  have ka := ka.below hb9
  have kb := kb.below hb9
  have kR := kR.below hb9
  have km := km.below hb9
  have kn := kn.below hb9
  have ks := ks.below hb9
  rw [HFt.out.1]
  rw [HFt.out.2] at hrt
  obtain ⟨st, At, nt, ct, rfl⟩ := hrt.form
  have hmx := fun (W : World) (ts : Array TypeId) (t : TypeId) => max4 Try.prog W ts t
  have ksy := ks.below ((Below.refl _ u6).alloc (Nat.le_refl _) (.cells #[.int .i64 st, .slice At nt ct] 38))
  have zs0y := ksy.c0
  have zs1y := ksy.c1
  go_wp2_with fail
  clear zs0y zs1y
  clear ksy
  obtain ⟨Wt, hW, hbx, kt⟩ := box1 hrt
  rw [← hW]
  clear hW
  have hT := hT.trans (hbx.mono hT.size)
  have ka := ka.below hbx
  have kb := kb.below hbx
  have kR := kR.below hbx
  have km := km.below hbx
  have kn := kn.below hbx
  have ks := ks.below hbx
  have hlt := kR.blk.lt
  (with_reducible refine (new_any _ _ _ _ _ _ _ _ _ _ _ ks.bv kt.bv HKs.out HKt.out).mono ?_)
  rintro e u7 ⟨rr, rfl, hrr, hb9⟩
  have hT := hT.trans (hb9.mono hT.size)
  have kR := kR.below hb9
  clear ka kb km kn ks kt
  rw [HP.out, HQ.out] at hrr
  rw [HE.out]
  obtain ⟨t1, C1, m1, e1, t2, C2, m2, e2, rfl, g1, g2⟩ := hrr
  have gR : w.heap.size ≤ w.heap.size + 1 + 1 := by omega
  have r0 := kR.blk.cell 0
  have r1 := kR.blk.cell 1
  have r2 := kR.blk.cell 2
  have r3 := kR.blk.cell 3
  have q0' := kR.blk.frozen 0
  have q1' := kR.blk.frozen 1
  have q2' := kR.blk.frozen 2
  have q3' := kR.blk.frozen 3
  simp at r0 r1 r2 r3
  have hbs := kR.blk.set4 (.int .i64 t1) (.slice C1 m1 e1) (.int .i64 t2) (.slice C2 m2 e2)
  have x0 := hbs.cell 0
  have x1 := hbs.cell 1
  have x2 := hbs.cell 2
  have x3 := hbs.cell 3
  simp at x0 x1 x2 x3
  go_wp2_with fail
  refine bodyPost_ret (v := .tuple #[.agg #[.int .i64 t1, .slice C1 m1 e1, .int .i64 t2, .slice C2 m2 e2], .int .i64 E]) (by simp [results, Try.results37, go_sem, x0, x1, x2, x3]) rfl ?_
  exact ⟨_, rfl, FO.mk2 ((g1.far4 hlt _ _ _ _).mono (by omega)) ((g2.far4 hlt _ _ _ _).mono (by omega)), below_st4 hT gR _ _ _ _⟩

set_option maxRecDepth 100000 in
set_option maxHeartbeats 8000000 in
theorem fadd_fit (s1 s2 s3 s4 : Int) (A1 A2 A3 A4 : Option Addr) (n1 d1 n2 d2 n3 d3 n4 d4 : Nat) (p1 q1 p2 q2 : Int) (w : World) (ha : FV w w.heap.size s1 A1 n1 d1 s2 A2 n2 d2 p1 q1) (hb : FV w w.heap.size s3 A3 n3 d3 s4 A4 n4 d4 p2 q2) (h1 : ab p1 < pw 60) (h2 : ab q1 < pw 60) (h3 : ab p2 < pw 60) (h4 : ab q2 < pw 60) (f1 : FR p1 q1) (f2 : FR p2 q2) (c1 : ab (p1 * q2) < pw 60) (c2 : ab (p2 * q1) < pw 60) (c3 : ab (p1 * q2 + p2 * q1) < pw 60) (c4 : ab (q1 * q2) < pw 60) :
    Calls Try.prog 21 #[.agg #[.int .i64 s1, .slice A1 n1 d1, .int .i64 s2, .slice A2 n2 d2], .agg #[.int .i64 s3, .slice A3 n3 d3, .int .i64 s4, .slice A4 n4 d4]] w (NewP (p1 * q2 + p2 * q1) (q1 * q2) w) := by
  have HI := Lib.hid (fun (w' : World) (hw : Below w.heap.size w w') => combine_add s1 s2 s3 s4 A1 A2 A3 A4 n1 d1 n2 d2 n3 d3 n4 d4 p1 q1 p2 q2 w' (ha.later hw) (hb.later hw) h1 h2 h3 h4 f1 f2 c1 c2 c3 c4)
  clear h1 h2 h3 h4 f1 f2 c1 c2 c3 c4
  unfold NewP
  obtain ⟨E, hE⟩ : ∃ E, newE (q1 * q2) = E := ⟨_, rfl⟩
  obtain ⟨P, hP⟩ : ∃ E, newN (p1 * q2 + p2 * q1) (q1 * q2) = E := ⟨_, rfl⟩
  obtain ⟨Q, hQ⟩ : ∃ E, newD (p1 * q2 + p2 * q1) (q1 * q2) = E := ⟨_, rfl⟩
  rw [hE, hP, hQ]
  have HE := Lib.hid hE; clear hE
  have HP := Lib.hid hP; clear hP
  have HQ := Lib.hid hQ; clear hQ
  go_enter Try.func21, Try.ntmps21
  go_wp2_with fail
  obtain ⟨W0, hW, hbx, ka, kb, kR⟩ := fboxes2 ha hb
  rw [← hW]
  clear hW ha hb
  have hT := hbx
  have za0 := ka.c0
  have za1 := ka.c1
  have za2 := ka.c2
  have za3 := ka.c3
  have zb0 := kb.c0
  have zb1 := kb.c1
  have zb2 := kb.c2
  have zb3 := kb.c3
  go_wp2_with fail
  clear za0 za1 za2 za3
  clear zb0 zb1 zb2 zb3
  have hlt := kR.blk.lt
  (with_reducible refine (HI.out _ hT).mono ?_)
  rintro e u3 ⟨rr, rfl, hrr, hb9⟩
  have hT := hT.trans (hb9.mono hT.size)
  have kR := kR.below hb9
  clear ka kb HI
  rw [HP.out, HQ.out] at hrr
  rw [HE.out]
  obtain ⟨t1, C1, m1, e1, t2, C2, m2, e2, rfl, g1, g2⟩ := hrr
  have gR : w.heap.size ≤ w.heap.size + 1 + 1 := by omega
  have r0 := kR.blk.cell 0
  have r1 := kR.blk.cell 1
  have r2 := kR.blk.cell 2
  have r3 := kR.blk.cell 3
  have q0' := kR.blk.frozen 0
  have q1' := kR.blk.frozen 1
  have q2' := kR.blk.frozen 2
  have q3' := kR.blk.frozen 3
  simp at r0 r1 r2 r3
  have hbs := kR.blk.set4 (.int .i64 t1) (.slice C1 m1 e1) (.int .i64 t2) (.slice C2 m2 e2)
  have x0 := hbs.cell 0
  have x1 := hbs.cell 1
  have x2 := hbs.cell 2
  have x3 := hbs.cell 3
  simp at x0 x1 x2 x3
  go_wp2_with fail
  refine bodyPost_ret (v := .tuple #[.agg #[.int .i64 t1, .slice C1 m1 e1, .int .i64 t2, .slice C2 m2 e2], .int .i64 E]) (by simp [results, Try.results21, go_sem, x0, x1, x2, x3]) rfl ?_
  exact ⟨_, rfl, FO.mk2 ((g1.far4 hlt _ _ _ _).mono (by omega)) ((g2.far4 hlt _ _ _ _).mono (by omega)), below_st4 hT gR _ _ _ _⟩

set_option maxRecDepth 100000 in
set_option maxHeartbeats 8000000 in
theorem fsub_fit (s1 s2 s3 s4 : Int) (A1 A2 A3 A4 : Option Addr) (n1 d1 n2 d2 n3 d3 n4 d4 : Nat) (p1 q1 p2 q2 : Int) (w : World) (ha : FV w w.heap.size s1 A1 n1 d1 s2 A2 n2 d2 p1 q1) (hb : FV w w.heap.size s3 A3 n3 d3 s4 A4 n4 d4 p2 q2) (h1 : ab p1 < pw 60) (h2 : ab q1 < pw 60) (h3 : ab p2 < pw 60) (h4 : ab q2 < pw 60) (f1 : FR p1 q1) (f2 : FR p2 q2) (c1 : ab (p1 * q2) < pw 60) (c2 : ab (p2 * q1) < pw 60) (c3 : ab (p1 * q2 - p2 * q1) < pw 60) (c4 : ab (q1 * q2) < pw 60) :
    Calls Try.prog 30 #[.agg #[.int .i64 s1, .slice A1 n1 d1, .int .i64 s2, .slice A2 n2 d2], .agg #[.int .i64 s3, .slice A3 n3 d3, .int .i64 s4, .slice A4 n4 d4]] w (NewP (p1 * q2 - p2 * q1) (q1 * q2) w) := by
  have HI := Lib.hid (fun (w' : World) (hw : Below w.heap.size w w') => combine_sub s1 s2 s3 s4 A1 A2 A3 A4 n1 d1 n2 d2 n3 d3 n4 d4 p1 q1 p2 q2 w' (ha.later hw) (hb.later hw) h1 h2 h3 h4 f1 f2 c1 c2 c3 c4)
  clear h1 h2 h3 h4 f1 f2 c1 c2 c3 c4
  unfold NewP
  obtain ⟨E, hE⟩ : ∃ E, newE (q1 * q2) = E := ⟨_, rfl⟩
  obtain ⟨P, hP⟩ : ∃ E, newN (p1 * q2 - p2 * q1) (q1 * q2) = E := ⟨_, rfl⟩
  obtain ⟨Q, hQ⟩ : ∃ E, newD (p1 * q2 - p2 * q1) (q1 * q2) = E := ⟨_, rfl⟩
  rw [hE, hP, hQ]
  have HE := Lib.hid hE; clear hE
  have HP := Lib.hid hP; clear hP
  have HQ := Lib.hid hQ; clear hQ
  go_enter Try.func30, Try.ntmps30
  go_wp2_with fail
  obtain ⟨W0, hW, hbx, ka, kb, kR⟩ := fboxes2 ha hb
  rw [← hW]
  clear hW ha hb
  have hT := hbx
  have za0 := ka.c0
  have za1 := ka.c1
  have za2 := ka.c2
  have za3 := ka.c3
  have zb0 := kb.c0
  have zb1 := kb.c1
  have zb2 := kb.c2
  have zb3 := kb.c3
  go_wp2_with fail
  clear za0 za1 za2 za3
  clear zb0 zb1 zb2 zb3
  have hlt := kR.blk.lt
  (with_reducible refine (HI.out _ hT).mono ?_)
  rintro e u3 ⟨rr, rfl, hrr, hb9⟩
  have hT := hT.trans (hb9.mono hT.size)
  have kR := kR.below hb9
  clear ka kb HI
  rw [HP.out, HQ.out] at hrr
  rw [HE.out]
  obtain ⟨t1, C1, m1, e1, t2, C2, m2, e2, rfl, g1, g2⟩ := hrr
  have gR : w.heap.size ≤ w.heap.size + 1 + 1 := by omega
  have r0 := kR.blk.cell 0
  have r1 := kR.blk.cell 1
  have r2 := kR.blk.cell 2
  have r3 := kR.blk.cell 3
  have q0' := kR.blk.frozen 0
  have q1' := kR.blk.frozen 1
  have q2' := kR.blk.frozen 2
  have q3' := kR.blk.frozen 3
  simp at r0 r1 r2 r3
  have hbs := kR.blk.set4 (.int .i64 t1) (.slice C1 m1 e1) (.int .i64 t2) (.slice C2 m2 e2)
  have x0 := hbs.cell 0
  have x1 := hbs.cell 1
  have x2 := hbs.cell 2
  have x3 := hbs.cell 3
  simp at x0 x1 x2 x3
  go_wp2_with fail
  refine bodyPost_ret (v := .tuple #[.agg #[.int .i64 t1, .slice C1 m1 e1, .int .i64 t2, .slice C2 m2 e2], .int .i64 E]) (by simp [results, Try.results30, go_sem, x0, x1, x2, x3]) rfl ?_
  exact ⟨_, rfl, FO.mk2 ((g1.far4 hlt _ _ _ _).mono (by omega)) ((g2.far4 hlt _ _ _ _).mono (by omega)), below_st4 hT gR _ _ _ _⟩

end Go.Proofs.Ytlbjaimgoiimgaa
