/- Plain: the documented examples of fractions. Floor as a rational number's. No more program than that. Walks: the laws' head: the documented examples of fractions. Printed by a program (fsmall.py). Boxes of the laws of fractions. Printed by a program (lcommon.py). -/
import Derived.Test.YtkjpfnbdlbnbkaaGreatDoorXbi
import Derived.Test.YtkjpfnbdlbnbkaaGreatDoorXbb
import Derived.Test.YtkjpfnbdlbnbkaaGreatDoorXbg

namespace Go.Proofs.YtkjpfnbdlbnbkaaGreatDoor
open Go.RowKit

theorem itoa_d {n : Nat} (h : n < 10) : Lib.itoa (n : Int) = [UInt8.ofNat (48 + n)] := by
  unfold Lib.itoa
  rw [if_neg (by omega), show (n : Int).toNat = n by omega]
  exact dd_lt h
theorem itoa_m {n : Nat} (h0 : 0 < n) (h : n < 10) : Lib.itoa (-(n : Int)) = [45, UInt8.ofNat (48 + n)] := by
  unfold Lib.itoa
  rw [if_pos (by omega), show (-(n : Int)).natAbs = n by omega]
  rw [dd_lt h]
theorem tx32 : byt (Lib.itoa (-3) ++ [47] ++ Lib.itoa 2) = ⟨#[45, 51, 47, 50]⟩ := by
  rw [show (-3 : Int) = -((3 : Nat) : Int) from rfl, itoa_m (by decide) (by decide), show (2 : Int) = ((2 : Nat) : Int) from rfl, itoa_d (by decide)]; rfl
theorem tx01 : byt (Lib.itoa 0 ++ [47] ++ Lib.itoa 1) = ⟨#[48, 47, 49]⟩ := by
  rw [show (0 : Int) = ((0 : Nat) : Int) from rfl, itoa_d (by decide), show (1 : Int) = ((1 : Nat) : Int) from rfl, itoa_d (by decide)]; rfl
theorem tx56 : byt (Lib.itoa 5 ++ [47] ++ Lib.itoa 6) = ⟨#[53, 47, 54]⟩ := by
  rw [show (5 : Int) = ((5 : Nat) : Int) from rfl, itoa_d (by decide), show (6 : Int) = ((6 : Nat) : Int) from rfl, itoa_d (by decide)]; rfl
theorem tx16 : byt (Lib.itoa 1 ++ [47] ++ Lib.itoa 6) = ⟨#[49, 47, 54]⟩ := by
  rw [show (1 : Int) = ((1 : Nat) : Int) from rfl, itoa_d (by decide), show (6 : Int) = ((6 : Nat) : Int) from rfl, itoa_d (by decide)]; rfl
theorem tx3p2 : byt (Lib.itoa 3 ++ [47] ++ Lib.itoa 2) = ⟨#[51, 47, 50]⟩ := by
  rw [show (3 : Int) = ((3 : Nat) : Int) from rfl, itoa_d (by decide), show (2 : Int) = ((2 : Nat) : Int) from rfl, itoa_d (by decide)]; rfl
theorem ftx32 : bts ⟨#[45, 51, 47, 50]⟩ = ftx (Rat.divInt (-3) 2) := by
  have h : ftx (Rat.divInt (-3) 2) = Lib.itoa (-3) ++ [47] ++ Lib.itoa 2 := by
    unfold ftx
    rw [show (Rat.divInt (-3) 2).num = -3 from rfl, show (((Rat.divInt (-3) 2).den : Nat) : Int) = 2 from rfl]
    simp
  rw [h, ← bts_byt (Lib.itoa (-3) ++ [47] ++ Lib.itoa 2), tx32]
theorem no24 (x : Rat) : bts ⟨#[50, 47, 52]⟩ ≠ ftx x := by
  intro h
  have h1 : bts ⟨#[50, 47, 52]⟩ = [50] ++ 47 :: [52] := rfl
  have h2 := cut47 (a := [50]) (by decide) [52]
  rw [← h1, h, ftx_cut] at h2
  simp only [Prod.mk.injEq, and_true] at h2
  have e1 := itoa_inj (h2.1.trans (itoa_d (n := 2) (by decide)).symm)
  have e2 := itoa_inj (h2.2.trans (itoa_d (n := 4) (by decide)).symm)
  have h3 := (FR.of x)
  have h4 := FR.one h3
  rw [e1, e2] at h4
  exact absurd h4 (by decide)
theorem rb_lit (p q : Int) (h : q ≠ 0) (h1 : ab p < 1048576) (h2 : ab q < 1048576) : Rb (Rat.divInt p q) 1 1 := ⟨num_lt h (by rw [pw_one]; exact h1), den_lt h (by rw [pw_one]; exact h2)⟩
theorem Rb.mono {x : Rat} {k m k' m' : Nat} (h : Rb x k m) (h1 : k ≤ k') (h2 : m ≤ m') : Rb x k' m' :=
  ⟨by have := h.n; have := pw_le h1; omega, by have := h.d; have := pw_le h2; omega⟩
theorem rb60 (p q : Int) (h : q ≠ 0) (h1 : ab p < 1048576) (h2 : ab q < 1048576) : Rb (Rat.divInt p q) 60 60 := (rb_lit p q h h1 h2).mono (by decide) (by decide)
theorem ab_small {z : Int} (h : -1000 < z ∧ z < 1000) : ab z < 1048576 := by unfold ab; omega

/-- Floor. -/
theorem rfloor {s1 s2 : Int} {A1 A2 : Option Addr} {n1 d1 n2 d2 : Nat} {x : Rat} (w : World) (h : FV w w.heap.size s1 A1 n1 d1 s2 A2 n2 d2 x.num x.den) (hx : Rb x 60 60) :
    Calls Tryz.prog 57 #[.agg #[.int .i64 s1, .slice A1 n1 d1, .int .i64 s2, .slice A2 n2 d2]] w fun e w' => ∃ r, e = .returned r ∧ BO w' w.heap.size r x.floor ∧ Below w.heap.size w w' := by
  refine (ffloor_any s1 s2 A1 A2 n1 d1 n2 d2 x.num x.den w h hx.n hx.d (FR.of x)).mono ?_
  rintro e w' ⟨r, z, m, rfl, hq, hr, hb⟩
  rw [rat_floor x hq] at hr
  exact ⟨r, rfl, hr, hb⟩
theorem rtext {s1 s2 : Int} {A1 A2 : Option Addr} {n1 d1 n2 d2 : Nat} {x : Rat} (w : World) (h : FV w w.heap.size s1 A1 n1 d1 s2 A2 n2 d2 x.num x.den) (hx : Rb x 60 60) (ht : TB w) (S : ByteArray) (hS : byt (Lib.itoa x.num ++ [47] ++ Lib.itoa x.den) = S) :
    Calls Tryz.prog 54 #[.agg #[.int .i64 s1, .slice A1 n1 d1, .int .i64 s2, .slice A2 n2 d2]] w fun e w' => e = .returned (.string S) ∧ Below w.heap.size w w' := by
  subst hS
  exact ftext_any s1 s2 A1 A2 n1 d1 n2 d2 x.num x.den w h hx.n hx.d (FR.of x) ht
/-- Of with 0 below. -/
theorem rof0 (p : Int) (w : World) (hp : isI p) : Calls Tryz.prog 44 #[.int .i64 p, .int .i64 0] w fun e w' => ∃ r, e = .returned (.tuple #[r, .int .i64 15]) ∧ FO w' w.heap.size r 0 0 ∧ Below w.heap.size w w' := by
  refine (fof_any p 0 w hp ⟨by decide, by decide⟩).mono ?_
  rintro e w' ⟨r, rfl, hr, hb⟩
  exact ⟨r, rfl, hr, hb⟩

end Go.Proofs.YtkjpfnbdlbnbkaaGreatDoor

namespace Go.Proofs.YtkjpfnbdlbnbkaaGreatDoor
open Go.RowKit

set_option maxRecDepth 100000 in
set_option maxHeartbeats 8000000 in
theorem fsmall_any (w : World) (ht : TB w) :
    Calls Tryz.prog 33 #[] w fun e w' => e = .returned (.bool true) ∧ Below w.heap.size w w' := by
  have HT := Lib.hid ht; clear ht
  go_enter Tryz.func33, Tryz.ntmps33
  go_wp2_with fail
  (with_reducible refine (rlof (1) (2) _ (by decide) (by decide) (by decide)).mono ?_)
  rintro e u1 ⟨ra, rfl, hra, hb9⟩
  have hT := hb9
  obtain ⟨sa, Aa, na, ca, ya, Ba, ma, ea, rfl⟩ := hra.form
  obtain ⟨Wa, hW, hbx, ka⟩ := fbox hra
  go_wp2_with fail
  rw [← hW]
  clear hW
  have hT := hT.trans (hbx.mono hT.size)
  (with_reducible refine (rlof (1) (3) _ (by decide) (by decide) (by decide)).mono ?_)
  rintro e u2 ⟨rb, rfl, hrb, hb9⟩
  have hT := hT.trans (hb9.mono hT.size)
  have ka := ka.below hb9
  obtain ⟨sb, Ab, nb, cb, yb, Bb, mb, eb, rfl⟩ := hrb.form
  obtain ⟨Wb, hW, hbx, kb⟩ := fbox hrb
  go_wp2_with fail
  rw [← hW]
  clear hW
  have hT := hT.trans (hbx.mono hT.size)
  have ka := ka.below hbx
  (with_reducible refine (rof0 1 _ (by decide)).mono ?_)
  rintro e u3 ⟨ro, rfl, hro, hb9⟩
  have hT := hT.trans (hb9.mono hT.size)
  have ka := ka.below hb9
  have kb := kb.below hb9
  obtain ⟨so, Ao, no, co, yo, Bo, mo, eo, rfl⟩ := hro.form
  obtain ⟨Wo, hW, hbx, ko⟩ := fbox hro
  have kaz := ka.below hbx
  have za0 := kaz.c0
  have za1 := kaz.c1
  have za2 := kaz.c2
  have za3 := kaz.c3
  have kbz := kb.below hbx
  have zb0 := kbz.c0
  have zb1 := kbz.c1
  have zb2 := kbz.c2
  have zb3 := kbz.c3
  rw [hW] at za0 za1 za2 za3 zb0 zb1 zb2 zb3
  go_wp2_with fail
  clear za0 za1 za2 za3 zb0 zb1 zb2 zb3
  clear kaz
  clear kbz
  rw [← hW]
  clear hW
  have hT := hT.trans (hbx.mono hT.size)
  have ka := ka.below hbx
  have kb := kb.below hbx
  (with_reducible refine (radd _ ka.fv kb.fv (rb_lit (1) (2) (by decide) (ab_small (by decide)) (ab_small (by decide))) (rb_lit (1) (3) (by decide) (ab_small (by decide)) (ab_small (by decide))) (by decide)).mono ?_)
  rintro e u4 ⟨rc, rfl, hrc, hb9⟩
  have hT := hT.trans (hb9.mono hT.size)
  have ka := ka.below hb9
  have kb := kb.below hb9
  have ko := ko.below hb9
  rw [show Rat.divInt 1 2 + Rat.divInt 1 3 = Rat.divInt 5 6 from Rat.divInt_add_divInt _ _ (by decide) (by decide)] at hrc
  obtain ⟨sc, Ac, nc, cc, yc, Bc, mc, ec, rfl⟩ := hrc.form
  obtain ⟨Wc, hW, hbx, kc⟩ := fbox hrc
  have kaz := ka.below hbx
  have za0 := kaz.c0
  have za1 := kaz.c1
  have za2 := kaz.c2
  have za3 := kaz.c3
  have kbz := kb.below hbx
  have zb0 := kbz.c0
  have zb1 := kbz.c1
  have zb2 := kbz.c2
  have zb3 := kbz.c3
  rw [hW] at za0 za1 za2 za3 zb0 zb1 zb2 zb3
  go_wp2_with fail
  clear za0 za1 za2 za3 zb0 zb1 zb2 zb3
  clear kaz
  clear kbz
  rw [← hW]
  clear hW
  have hT := hT.trans (hbx.mono hT.size)
  have ka := ka.below hbx
  have kb := kb.below hbx
  have ko := ko.below hbx
  (with_reducible refine (rsub _ ka.fv kb.fv (rb_lit (1) (2) (by decide) (ab_small (by decide)) (ab_small (by decide))) (rb_lit (1) (3) (by decide) (ab_small (by decide)) (ab_small (by decide))) (by decide)).mono ?_)
  rintro e u5 ⟨rd, rfl, hrd, hb9⟩
  have hT := hT.trans (hb9.mono hT.size)
  have ka := ka.below hb9
  have kb := kb.below hb9
  have ko := ko.below hb9
  have kc := kc.below hb9
  rw [show Rat.divInt 1 2 - Rat.divInt 1 3 = Rat.divInt 1 6 from Rat.divInt_sub_divInt _ _ (by decide) (by decide)] at hrd
  obtain ⟨sd, Ad, nd, cd, yd, Bd, md, ed, rfl⟩ := hrd.form
  obtain ⟨Wd, hW, hbx, kd⟩ := fbox hrd
  have kaz := ka.below hbx
  have za0 := kaz.c0
  have za1 := kaz.c1
  have za2 := kaz.c2
  have za3 := kaz.c3
  have kbz := kb.below hbx
  have zb0 := kbz.c0
  have zb1 := kbz.c1
  have zb2 := kbz.c2
  have zb3 := kbz.c3
  rw [hW] at za0 za1 za2 za3 zb0 zb1 zb2 zb3
  go_wp2_with fail
  clear za0 za1 za2 za3 zb0 zb1 zb2 zb3
  clear kaz
  clear kbz
  rw [← hW]
  clear hW
  have hT := hT.trans (hbx.mono hT.size)
  have ka := ka.below hbx
  have kb := kb.below hbx
  have ko := ko.below hbx
  have kc := kc.below hbx
  (with_reducible refine (rmul _ ka.fv kb.fv (rb_lit (1) (2) (by decide) (ab_small (by decide)) (ab_small (by decide))) (rb_lit (1) (3) (by decide) (ab_small (by decide)) (ab_small (by decide))) (by decide)).mono ?_)
  rintro e u6 ⟨rg, rfl, hrg, hb9⟩
  have hT := hT.trans (hb9.mono hT.size)
  have ka := ka.below hb9
  have kb := kb.below hb9
  have ko := ko.below hb9
  have kc := kc.below hb9
  have kd := kd.below hb9
  rw [show Rat.divInt 1 2 * Rat.divInt 1 3 = Rat.divInt 1 6 from Rat.divInt_mul_divInt _ _] at hrg
  obtain ⟨sg, Ag, ng, cg, yg, Bg, mg, eg, rfl⟩ := hrg.form
  obtain ⟨Wg, hW, hbx, kg⟩ := fbox hrg
  have kaz := ka.below hbx
  have za0 := kaz.c0
  have za1 := kaz.c1
  have za2 := kaz.c2
  have za3 := kaz.c3
  have kbz := kb.below hbx
  have zb0 := kbz.c0
  have zb1 := kbz.c1
  have zb2 := kbz.c2
  have zb3 := kbz.c3
  rw [hW] at za0 za1 za2 za3 zb0 zb1 zb2 zb3
  go_wp2_with fail
  clear za0 za1 za2 za3 zb0 zb1 zb2 zb3
  clear kaz
  clear kbz
  rw [← hW]
  clear hW
  have hT := hT.trans (hbx.mono hT.size)
  have ka := ka.below hbx
  have kb := kb.below hbx
  have ko := ko.below hbx
  have kc := kc.below hbx
  have kd := kd.below hbx
  (with_reducible refine (rdiv _ ka.fv kb.fv (rb_lit (1) (2) (by decide) (ab_small (by decide)) (ab_small (by decide))) (rb_lit (1) (3) (by decide) (ab_small (by decide)) (ab_small (by decide))) (by decide) (by decide)).mono ?_)
  rintro e u7 ⟨ri, rfl, hri, hb9⟩
  have hT := hT.trans (hb9.mono hT.size)
  have ka := ka.below hb9
  have kb := kb.below hb9
  have ko := ko.below hb9
  have kc := kc.below hb9
  have kd := kd.below hb9
  have kg := kg.below hb9
  rw [show Rat.divInt 1 2 / Rat.divInt 1 3 = Rat.divInt 3 2 by rw [Rat.div_def, Rat.inv_divInt, Rat.divInt_mul_divInt]; rfl] at hri
  obtain ⟨si, Ai, ni, ci, yi, Bi, mi, ei, rfl⟩ := hri.form
  obtain ⟨Wi, hW, hbx, ki⟩ := fbox hri
  go_wp2_with fail
  rw [← hW]
  clear hW
  have hT := hT.trans (hbx.mono hT.size)
  have ka := ka.below hbx
  have kb := kb.below hbx
  have ko := ko.below hbx
  have kc := kc.below hbx
  have kd := kd.below hbx
  have kg := kg.below hbx
  (with_reducible refine (fread_no _ _ (by decide) (fun x _ => no24 x)).mono ?_)
  rintro e u8 ⟨rfl, hb9⟩
  have hT := hT.trans (hb9.mono hT.size)
  have ka := ka.below hb9
  have kb := kb.below hb9
  have ko := ko.below hb9
  have kc := kc.below hb9
  have kd := kd.below hb9
  have kg := kg.below hb9
  have ki := ki.below hb9
  have hrl := FO.zero u8 u8.heap.size
  obtain ⟨Wl, hW, hbx, kl⟩ := fbox hrl
  go_wp2_with fail
  rw [← hW]
  clear hW
  have hT := hT.trans (hbx.mono hT.size)
  have ka := ka.below hbx
  have kb := kb.below hbx
  have ko := ko.below hbx
  have kc := kc.below hbx
  have kd := kd.below hbx
  have kg := kg.below hbx
  have ki := ki.below hbx
  (with_reducible refine (fread_yes _ _ (by decide) _ ftx32 (rb60 (-3) 2 (by decide) (ab_small (by decide)) (ab_small (by decide)))).mono ?_)
  rintro e u9 ⟨rm, rfl, hrm, hb9⟩
  have hT := hT.trans (hb9.mono hT.size)
  have ka := ka.below hb9
  have kb := kb.below hb9
  have ko := ko.below hb9
  have kc := kc.below hb9
  have kd := kd.below hb9
  have kg := kg.below hb9
  have ki := ki.below hb9
  have kl := kl.below hb9
  obtain ⟨sm, Am, nm, cm, ym, Bm, mm, em, rfl⟩ := hrm.form
  obtain ⟨Wm, hW, hbx, km⟩ := fbox hrm
  go_wp2_with fail
  rw [← hW]
  clear hW
  have hT := hT.trans (hbx.mono hT.size)
  have ka := ka.below hbx
  have kb := kb.below hbx
  have ko := ko.below hbx
  have kc := kc.below hbx
  have kd := kd.below hbx
  have kg := kg.below hbx
  have ki := ki.below hbx
  have kl := kl.below hbx
  clear kb
  clear ko
  clear kl
  (with_reducible refine (rlof (6) (-4) _ (by decide) (by decide) (by decide)).mono ?_)
  rintro e u10 ⟨rp, rfl, hrp, hb9⟩
  have hT := hT.trans (hb9.mono hT.size)
  have ka := ka.below hb9
  have kc := kc.below hb9
  have kd := kd.below hb9
  have kg := kg.below hb9
  have ki := ki.below hb9
  have km := km.below hb9
  obtain ⟨sp, Ap, np, cp, yp, Bp, mp, ep, rfl⟩ := hrp.form
  go_wp2_with fail
  (with_reducible refine (rtext _ hrp.fv (rb60 (6) (-4) (by decide) (ab_small (by decide)) (ab_small (by decide))) (HT.out.below hT) ⟨#[45, 51, 47, 50]⟩ (by rw [show (Rat.divInt (6) (-4)).num = -3 from rfl, show (((Rat.divInt (6) (-4)).den : Nat) : Int) = 2 from rfl]; exact tx32)).mono ?_)
  rintro e u11 ⟨rfl, hb9⟩
  have hT := hT.trans (hb9.mono hT.size)
  have ka := ka.below hb9
  have kc := kc.below hb9
  have kd := kd.below hb9
  have kg := kg.below hb9
  have ki := ki.below hb9
  have km := km.below hb9
  go_wp2_with fail
  (with_reducible refine (rlof (0) (7) _ (by decide) (by decide) (by decide)).mono ?_)
  rintro e u12 ⟨rq, rfl, hrq, hb9⟩
  have hT := hT.trans (hb9.mono hT.size)
  have ka := ka.below hb9
  have kc := kc.below hb9
  have kd := kd.below hb9
  have kg := kg.below hb9
  have ki := ki.below hb9
  have km := km.below hb9
  obtain ⟨sq, Aq, nq, cq, yq, Bq, mq, eq, rfl⟩ := hrq.form
  go_wp2_with fail
  (with_reducible refine (rtext _ hrq.fv (rb60 (0) (7) (by decide) (ab_small (by decide)) (ab_small (by decide))) (HT.out.below hT) ⟨#[48, 47, 49]⟩ (by rw [show (Rat.divInt (0) (7)).num = 0 from rfl, show (((Rat.divInt (0) (7)).den : Nat) : Int) = 1 from rfl]; exact tx01)).mono ?_)
  rintro e u13 ⟨rfl, hb9⟩
  have hT := hT.trans (hb9.mono hT.size)
  have ka := ka.below hb9
  have kc := kc.below hb9
  have kd := kd.below hb9
  have kg := kg.below hb9
  have ki := ki.below hb9
  have km := km.below hb9
  have zc0 := kc.c0
  have zc1 := kc.c1
  have zc2 := kc.c2
  have zc3 := kc.c3
  go_wp2_with fail
  clear zc0 zc1 zc2 zc3
  (with_reducible refine (rtext _ kc.fv (rb60 (5) (6) (by decide) (ab_small (by decide)) (ab_small (by decide))) (HT.out.below hT) ⟨#[53, 47, 54]⟩ (by rw [show (Rat.divInt (5) (6)).num = 5 from rfl, show (((Rat.divInt (5) (6)).den : Nat) : Int) = 6 from rfl]; exact tx56)).mono ?_)
  rintro e u14 ⟨rfl, hb9⟩
  have hT := hT.trans (hb9.mono hT.size)
  have ka := ka.below hb9
  have kc := kc.below hb9
  have kd := kd.below hb9
  have kg := kg.below hb9
  have ki := ki.below hb9
  have km := km.below hb9
  have zd0 := kd.c0
  have zd1 := kd.c1
  have zd2 := kd.c2
  have zd3 := kd.c3
  go_wp2_with fail
  clear zd0 zd1 zd2 zd3
  (with_reducible refine (rtext _ kd.fv (rb60 (1) (6) (by decide) (ab_small (by decide)) (ab_small (by decide))) (HT.out.below hT) ⟨#[49, 47, 54]⟩ (by rw [show (Rat.divInt (1) (6)).num = 1 from rfl, show (((Rat.divInt (1) (6)).den : Nat) : Int) = 6 from rfl]; exact tx16)).mono ?_)
  rintro e u15 ⟨rfl, hb9⟩
  have hT := hT.trans (hb9.mono hT.size)
  have ka := ka.below hb9
  have kc := kc.below hb9
  have kd := kd.below hb9
  have kg := kg.below hb9
  have ki := ki.below hb9
  have km := km.below hb9
  have zg0 := kg.c0
  have zg1 := kg.c1
  have zg2 := kg.c2
  have zg3 := kg.c3
  go_wp2_with fail
  clear zg0 zg1 zg2 zg3
  (with_reducible refine (rtext _ kg.fv (rb60 (1) (6) (by decide) (ab_small (by decide)) (ab_small (by decide))) (HT.out.below hT) ⟨#[49, 47, 54]⟩ (by rw [show (Rat.divInt (1) (6)).num = 1 from rfl, show (((Rat.divInt (1) (6)).den : Nat) : Int) = 6 from rfl]; exact tx16)).mono ?_)
  rintro e u16 ⟨rfl, hb9⟩
  have hT := hT.trans (hb9.mono hT.size)
  have ka := ka.below hb9
  have kc := kc.below hb9
  have kd := kd.below hb9
  have kg := kg.below hb9
  have ki := ki.below hb9
  have km := km.below hb9
  have zi0 := ki.c0
  have zi1 := ki.c1
  have zi2 := ki.c2
  have zi3 := ki.c3
  go_wp2_with fail
  clear zi0 zi1 zi2 zi3
  (with_reducible refine (rtext _ ki.fv (rb60 (3) (2) (by decide) (ab_small (by decide)) (ab_small (by decide))) (HT.out.below hT) ⟨#[51, 47, 50]⟩ (by rw [show (Rat.divInt (3) (2)).num = 3 from rfl, show (((Rat.divInt (3) (2)).den : Nat) : Int) = 2 from rfl]; exact tx3p2)).mono ?_)
  rintro e u17 ⟨rfl, hb9⟩
  have hT := hT.trans (hb9.mono hT.size)
  have ka := ka.below hb9
  have kc := kc.below hb9
  have kd := kd.below hb9
  have kg := kg.below hb9
  have ki := ki.below hb9
  have km := km.below hb9
  clear kc
  clear kd
  clear kg
  clear ki
  have e0 : ∀ W' : World, Below u17.heap.size u17 W' → W'.cell? ⟨u9.heap.size, 0, none⟩ = some (.int .i64 sm) ∧ W'.cell? ⟨u9.heap.size, 1, none⟩ = some (.slice Am nm cm) ∧ W'.cell? ⟨u9.heap.size, 2, none⟩ = some (.int .i64 ym) ∧ W'.cell? ⟨u9.heap.size, 3, none⟩ = some (.slice Bm mm em) ∧ W'.cell? ⟨u1.heap.size, 0, none⟩ = some (.int .i64 sa) ∧ W'.cell? ⟨u1.heap.size, 1, none⟩ = some (.slice Aa na ca) ∧ W'.cell? ⟨u1.heap.size, 2, none⟩ = some (.int .i64 ya) ∧ W'.cell? ⟨u1.heap.size, 3, none⟩ = some (.slice Ba ma ea) ∧ Below u17.heap.size u17 W' := fun W' hW =>
    ⟨(km.below hW).c0, (km.below hW).c1, (km.below hW).c2, (km.below hW).c3, (ka.below hW).c0, (ka.below hW).c1, (ka.below hW).c2, (ka.below hW).c3, hW⟩
  have E0 := Lib.hid e0; clear e0
  have hB00 : Below u17.heap.size u17 u17.drew := (Below.refl _ _).drew
  have hm := fun (w' : World) (hb : Below u17.heap.size u17 w') s1 A1 n1 d1 s2 A2 n2 d2 (h : FV w' w'.heap.size s1 A1 n1 d1 s2 A2 n2 d2 (Rat.divInt (-3) 2).num (Rat.divInt (-3) 2).den) => rsame w' (km.below hb).fv h true (decide_eq_true rfl)
  have HM := Lib.hid hm; clear hm
  have hr := fun (w' : World) (hb : Below u17.heap.size u17 w') => rright w' (ka.below hb).fv (rb60 (1) (2) (by decide) (ab_small (by decide)) (ab_small (by decide)))
  have HR := Lib.hid hr; clear hr
  have hz := fun (w' : World) => fright_low w' (FO.zero w' w'.heap.size).fv (by decide) (by decide) (by decide)
  have HZ := Lib.hid hz; clear hz
  have hTs := hT.size
  go_upto_region 11 with fail
  go_region_held3 (fun W' => W'.cell? ⟨u9.heap.size, 0, none⟩ = some (.int .i64 sm) ∧ W'.cell? ⟨u9.heap.size, 1, none⟩ = some (.slice Am nm cm) ∧ W'.cell? ⟨u9.heap.size, 2, none⟩ = some (.int .i64 ym) ∧ W'.cell? ⟨u9.heap.size, 3, none⟩ = some (.slice Bm mm em) ∧ W'.cell? ⟨u1.heap.size, 0, none⟩ = some (.int .i64 sa) ∧ W'.cell? ⟨u1.heap.size, 1, none⟩ = some (.slice Aa na ca) ∧ W'.cell? ⟨u1.heap.size, 2, none⟩ = some (.int .i64 ya) ∧ W'.cell? ⟨u1.heap.size, 3, none⟩ = some (.slice Ba ma ea) ∧ Below u17.heap.size u17 W')
    (first | exact E0.out _ (by assumption) | exact E0.out _ ⟨rfl, rfl, rfl, Nat.le_refl _, fun _ _ => rfl⟩)
    (first
      | (go_at_call 50; have _h := hB10; refine (HZ.out _).mono ?_; rintro e x11 ⟨rfl, hb11⟩; have hB11 : Below u17.heap.size u17 x11 := hB10.trans (hb11.mono hB10.size))
      | (go_at_call 50; have _h := hB9; refine (HR.out _ hB9).mono ?_; rintro e x10 ⟨rfl, hb10⟩; have hB10 : Below u17.heap.size u17 x10 := hB9.trans (hb10.mono hB9.size))
      | (go_at_call 39; have _h := hB8; refine (HM.out _ hB8 _ _ _ _ _ _ _ _ hr8.fv).mono ?_; rintro e x9 ⟨rfl, hb9⟩; have hB9 : Below u17.heap.size u17 x9 := hB8.trans (hb9.mono hB8.size))
      | (go_at_call 91; have _h := hB7; refine (rlof (-3) 2 _ (by decide) (by decide) (by decide)).mono ?_; rintro e x8 ⟨r8, rfl, hr8, hb8⟩; have hB8 : Below u17.heap.size u17 x8 := hB7.trans (hb8.mono hB7.size); obtain ⟨s8, A8, n8, c8, y8, B8, m8, e8, rfl⟩ := hr8.form)
      | (go_at_call 56; have _h := hB6; refine (sameBig_any _ _ _ _ _ hq5.bv hr6.bv).mono ?_; rintro e x7 ⟨rfl, hb7⟩; have hB7 : Below u17.heap.size u17 x7 := hB6.trans (hb7.mono hB6.size); rw [show decide ((Rat.divInt (-3) 2).floor = -2) = true from decide_eq_true (by decide)])
      | (go_at_call 31; have _h := hB5; refine (of_any (-2) _ (by omega) (by omega)).mono ?_; rintro e x6 ⟨r6, rfl, hr6, hb6⟩; have hB6 : Below u17.heap.size u17 x6 := hB5.trans (hb6.mono hB5.size); obtain ⟨s6, A6, n6, c6, rfl⟩ := hr6.form; have hq5 := hr5.below hb6)
      | (go_at_call 57; have _h := hB4; refine (rfloor _ hr4.fv (rb60 (-3) (2) (by decide) (ab_small (by decide)) (ab_small (by decide)))).mono ?_; rintro e x5 ⟨r5, rfl, hr5, hb5⟩; have hB5 : Below u17.heap.size u17 x5 := hB4.trans (hb5.mono hB4.size); obtain ⟨s5, A5, n5, c5, rfl⟩ := hr5.form)
      | (go_at_call 91; have _h := hB3; refine (rlof (-3) 2 _ (by decide) (by decide) (by decide)).mono ?_; rintro e x4 ⟨r4, rfl, hr4, hb4⟩; have hB4 : Below u17.heap.size u17 x4 := hB3.trans (hb4.mono hB3.size); obtain ⟨s4, A4, n4, c4, y4, B4, m4, e4, rfl⟩ := hr4.form)
      | (go_at_call 52; have _h := hB2; refine (rcompare _ hq1.fv hr2.fv (rb60 (-1) (2) (by decide) (ab_small (by decide)) (ab_small (by decide))) (rb60 (-1) (3) (by decide) (ab_small (by decide)) (ab_small (by decide)))).mono ?_; rintro e x3 ⟨rfl, hb3⟩; have hB3 : Below u17.heap.size u17 x3 := hB2.trans (hb3.mono hB2.size); rw [show cmpR (Rat.divInt (-1) 2) (Rat.divInt (-1) 3) = -1 from cmpR_lt (by decide)])
      | (go_at_call 91; have _h := hB1; refine (rlof (-1) 3 _ (by decide) (by decide) (by decide)).mono ?_; rintro e x2 ⟨r2, rfl, hr2, hb2⟩; have hB2 : Below u17.heap.size u17 x2 := hB1.trans (hb2.mono hB1.size); obtain ⟨s2, A2, n2, c2, y2, B2, m2, e2, rfl⟩ := hr2.form; have hq1 := hr1.below hb2)
      | (go_at_call 91; refine (rlof (-1) 2 _ (by decide) (by decide) (by decide)).mono ?_; rintro e x1 ⟨r1, rfl, hr1, hb1⟩; have hB1 : Below u17.heap.size u17 x1 := ⟨hb1.os, hb1.tape, hb1.output, hb1.size, hb1.block⟩; obtain ⟨s1, A1, n1, c1, y1, B1, m1, e1, rfl⟩ := hr1.form))
  go_wp2_with fail
  go_ret
  exact ⟨rfl, hT.trans (hB11.mono hTs)⟩


end Go.Proofs.YtkjpfnbdlbnbkaaGreatDoor

namespace Go.Proofs.YtkjpfnbdlbnbkaaGreatDoor
open Go.RowKit

section
variable {W W' w b b' : World} {g B : Nat} {s1 s2 s3 t1 t2 t3 : Int} {l1 l2 l3 k1 k2 k3 : List Int} {A1 A2 A3 B1 B2 B3 : Option Addr} {n1 d1 n2 d2 n3 d3 m1 e1 m2 e2 m3 e3 : Nat}
theorem afb1 (h1 : Ar w s1 l1 A1 n1 d1) (g1 : Ar w t1 k1 B1 m1 e1) :
    ∃ W, W = w.alloc (.cells #[.int .i64 s1, .slice A1 n1 d1, .int .i64 t1, .slice B1 m1 e1] 43) ∧ Below w.heap.size w W ∧ Af W (w.heap.size) s1 l1 A1 n1 d1 t1 k1 B1 m1 e1 := by
  have hb1 : Below w.heap.size w (w.alloc (.cells #[.int .i64 s1, .slice A1 n1 d1, .int .i64 t1, .slice B1 m1 e1] 43)) := (Below.refl _ _).alloc (Nat.le_refl _) _
  have j1 := Blk.new w 43 #[.int .i64 s1, .slice A1 n1 d1, .int .i64 t1, .slice B1 m1 e1]
  exact ⟨_, rfl, hb1, ⟨j1, h1.later hb1, g1.later hb1⟩⟩
theorem afb2 (h1 : Ar w s1 l1 A1 n1 d1) (g1 : Ar w t1 k1 B1 m1 e1) (h2 : Ar w s2 l2 A2 n2 d2) (g2 : Ar w t2 k2 B2 m2 e2) :
    ∃ W, W = (w.alloc (.cells #[.int .i64 s1, .slice A1 n1 d1, .int .i64 t1, .slice B1 m1 e1] 43)).alloc (.cells #[.int .i64 s2, .slice A2 n2 d2, .int .i64 t2, .slice B2 m2 e2] 43) ∧ Below w.heap.size w W ∧ Af W (w.heap.size) s1 l1 A1 n1 d1 t1 k1 B1 m1 e1 ∧ Af W (w.heap.size + 1) s2 l2 A2 n2 d2 t2 k2 B2 m2 e2 := by
  have hb1 : Below w.heap.size w (w.alloc (.cells #[.int .i64 s1, .slice A1 n1 d1, .int .i64 t1, .slice B1 m1 e1] 43)) := (Below.refl _ _).alloc (Nat.le_refl _) _
  have hb2 := hb1.alloc hb1.size (.cells #[.int .i64 s2, .slice A2 n2 d2, .int .i64 t2, .slice B2 m2 e2] 43)
  have j1 := Blk.new w 43 #[.int .i64 s1, .slice A1 n1 d1, .int .i64 t1, .slice B1 m1 e1]
  have j2 := Blk.new (w.alloc (.cells #[.int .i64 s1, .slice A1 n1 d1, .int .i64 t1, .slice B1 m1 e1] 43)) 43 #[.int .i64 s2, .slice A2 n2 d2, .int .i64 t2, .slice B2 m2 e2]
  simp only [World.size_alloc] at j2
  exact ⟨_, rfl, hb2, ⟨(j1.alloc _), h1.later hb2, g1.later hb2⟩, ⟨j2, h2.later hb2, g2.later hb2⟩⟩
theorem afb3 (h1 : Ar w s1 l1 A1 n1 d1) (g1 : Ar w t1 k1 B1 m1 e1) (h2 : Ar w s2 l2 A2 n2 d2) (g2 : Ar w t2 k2 B2 m2 e2) (h3 : Ar w s3 l3 A3 n3 d3) (g3 : Ar w t3 k3 B3 m3 e3) :
    ∃ W, W = ((w.alloc (.cells #[.int .i64 s1, .slice A1 n1 d1, .int .i64 t1, .slice B1 m1 e1] 43)).alloc (.cells #[.int .i64 s2, .slice A2 n2 d2, .int .i64 t2, .slice B2 m2 e2] 43)).alloc (.cells #[.int .i64 s3, .slice A3 n3 d3, .int .i64 t3, .slice B3 m3 e3] 43) ∧ Below w.heap.size w W ∧ Af W (w.heap.size) s1 l1 A1 n1 d1 t1 k1 B1 m1 e1 ∧ Af W (w.heap.size + 1) s2 l2 A2 n2 d2 t2 k2 B2 m2 e2 ∧ Af W (w.heap.size + 1 + 1) s3 l3 A3 n3 d3 t3 k3 B3 m3 e3 := by
  have hb1 : Below w.heap.size w (w.alloc (.cells #[.int .i64 s1, .slice A1 n1 d1, .int .i64 t1, .slice B1 m1 e1] 43)) := (Below.refl _ _).alloc (Nat.le_refl _) _
  have hb2 := hb1.alloc hb1.size (.cells #[.int .i64 s2, .slice A2 n2 d2, .int .i64 t2, .slice B2 m2 e2] 43)
  have hb3 := hb2.alloc hb2.size (.cells #[.int .i64 s3, .slice A3 n3 d3, .int .i64 t3, .slice B3 m3 e3] 43)
  have j1 := Blk.new w 43 #[.int .i64 s1, .slice A1 n1 d1, .int .i64 t1, .slice B1 m1 e1]
  have j2 := Blk.new (w.alloc (.cells #[.int .i64 s1, .slice A1 n1 d1, .int .i64 t1, .slice B1 m1 e1] 43)) 43 #[.int .i64 s2, .slice A2 n2 d2, .int .i64 t2, .slice B2 m2 e2]
  have j3 := Blk.new ((w.alloc (.cells #[.int .i64 s1, .slice A1 n1 d1, .int .i64 t1, .slice B1 m1 e1] 43)).alloc (.cells #[.int .i64 s2, .slice A2 n2 d2, .int .i64 t2, .slice B2 m2 e2] 43)) 43 #[.int .i64 s3, .slice A3 n3 d3, .int .i64 t3, .slice B3 m3 e3]
  simp only [World.size_alloc] at j2 j3
  exact ⟨_, rfl, hb3, ⟨((j1.alloc _).alloc _), h1.later hb3, g1.later hb3⟩, ⟨(j2.alloc _), h2.later hb3, g2.later hb3⟩, ⟨j3, h3.later hb3, g3.later hb3⟩⟩
theorem blk_run4 {a0 a1 a2 a3 : Value} (h : Below (b.alloc (.cells #[a0, a1, a2, a3] 43)).heap.size (b.alloc (.cells #[a0, a1, a2, a3] 43)) b') : Blk b' b.heap.size 43 #[a0, a1, a2, a3] := (Blk.new b 43 _).below h (by simp)
variable {p q : Int}
theorem fbox_new (h : FO b B (.agg #[.int .i64 s1, .slice A1 n1 d1, .int .i64 s2, .slice A2 n2 d2]) p q) : Bf 43 (b.alloc (.cells #[.int .i64 s1, .slice A1 n1 d1, .int .i64 s2, .slice A2 n2 d2] 43)) b.heap.size s1 A1 n1 d1 s2 A2 n2 d2 p q := by
  obtain ⟨W, hW, _, k⟩ := fbox h
  rw [← hW]
  exact k
theorem fbox_st {u0 u1 u2 u3 : Value} (hk : Blk b g 43 #[u0, u1, u2, u3]) (h : FO b B (.agg #[.int .i64 s1, .slice A1 n1 d1, .int .i64 s2, .slice A2 n2 d2]) p q) (hg : g < B) :
    Bf 43 ((((b.setCell ⟨g, 0, none⟩ (.int .i64 s1)).setCell ⟨g, 1, none⟩ (.slice A1 n1 d1)).setCell ⟨g, 2, none⟩ (.int .i64 s2)).setCell ⟨g, 3, none⟩ (.slice A2 n2 d2)) g s1 A1 n1 d1 s2 A2 n2 d2 p q := by
  obtain ⟨s1', A1', n1', c1', s2', A2', n2', c2', e, h1, h2⟩ := h
  injection e with e
  have e0 := congrArg (fun (a : Array Value) => a[0]?) e
  have e1 := congrArg (fun (a : Array Value) => a[1]?) e
  have e2 := congrArg (fun (a : Array Value) => a[2]?) e
  have e3 := congrArg (fun (a : Array Value) => a[3]?) e
  simp at e0 e1 e2 e3
  obtain ⟨rfl, rfl, rfl⟩ := e1
  obtain ⟨rfl, rfl, rfl⟩ := e3
  subst e0 e2
  exact Bf.put hk h1.bv h2.bv (h1.nb hg) (h2.nb hg)
theorem rb_int {z : Int} (h : ab z < pw 60) : Rb (z : Rat) 60 60 := ⟨h, lt60 (show ab (1 : Int) < 1208925819614629174706176 by decide)⟩
theorem divInt_1 (z : Int) : Rat.divInt z 1 = (z : Rat) := by
  apply Rat.ext <;> simp [Rat.num_divInt, Rat.den_divInt]
/-- New of an integer and 1. -/
theorem rnew1 {z : Int} {r : Value} (w : World) (h1 : BV w w.heap.size (.agg #[.int .i64 s1, .slice A1 n1 d1]) z) (h2 : BV w w.heap.size r 1) (hz : ab z < pw 60) :
    Calls Tryz.prog 48 #[.agg #[.int .i64 s1, .slice A1 n1 d1], r] w (RetF (z : Rat) w) := by
  obtain ⟨A, c, rfl, x1, x2, x3⟩ := h2
  have := rnew w h1 ⟨A, c, rfl, x1, x2, x3⟩ hz (lt60 (by decide)) (by decide)
  rw [divInt_1] at this
  exact this
end

end Go.Proofs.YtkjpfnbdlbnbkaaGreatDoor
