/- Walks: the law on sums and products of fractions. Printed by a program (ffield.py). -/
import Derived.Test.YtbhdkgieahnojaaGreatDoorXay

namespace Go.Proofs.YtbhdkgieahnojaaGreatDoor
open Go.RowKit

theorem rat_add_sub (x y : Rat) : (x + y) - y = x := by grind

section
variable {w : World} {B g : Nat} {s1 s2 : Int} {A1 A2 : Option Addr} {n1 d1 n2 d2 : Nat} {p q : Int}
theorem FO.nb (h : FO w B (.agg #[.int .i64 s1, .slice A1 n1 d1, .int .i64 s2, .slice A2 n2 d2]) p q) (hg : g < B) : Nb A1 n1 g ∧ Nb A2 n2 g := by
  obtain ⟨s1', A1', n1', c1', s2', A2', n2', c2', e, h1, h2⟩ := h
  injection e with e
  have e1 := congrArg (fun (a : Array Value) => a[1]?) e
  have e3 := congrArg (fun (a : Array Value) => a[3]?) e
  simp at e1 e3
  obtain ⟨rfl, rfl, rfl⟩ := e1
  obtain ⟨rfl, rfl, rfl⟩ := e3
  exact ⟨h1.nb hg, h2.nb hg⟩
end

set_option maxRecDepth 100000 in
set_option maxHeartbeats 8000000 in
theorem field_law (s1 t1 : Int) (l1 k1 : List Int) (A1 B1 : Option Addr) (n1 d1 m1 e1 : Nat) (s2 t2 : Int) (l2 k2 : List Int) (A2 B2 : Option Addr) (n2 d2 m2 e2 : Nat) (s3 t3 : Int) (l3 k3 : List Int) (A3 B3 : Option Addr) (n3 d3 m3 e3 : Nat) (w : World) (ht : TB w) (h1 : Ar w s1 l1 A1 n1 d1) (g1 : Ar w t1 k1 B1 m1 e1) (h2 : Ar w s2 l2 A2 n2 d2) (g2 : Ar w t2 k2 B2 m2 e2) (h3 : Ar w s3 l3 A3 n3 d3) (g3 : Ar w t3 k3 B3 m3 e3) :
    Calls Tryz.prog 5 #[.agg #[.int .i64 s1, .slice A1 n1 d1, .int .i64 t1, .slice B1 m1 e1], .agg #[.int .i64 s2, .slice A2 n2 d2, .int .i64 t2, .slice B2 m2 e2], .agg #[.int .i64 s3, .slice A3 n3 d3, .int .i64 t3, .slice B3 m3 e3]] w fun e w' => e = .returned (.bool true) ∧ Below w.heap.size w w' := by
  have HT := Lib.hid ht; clear ht
  go_enter Tryz.func5, Tryz.ntmps5
  go_wp2_with fail
  obtain ⟨W0, hW, hbx, q1, q2, q3⟩ := afb3 h1 g1 h2 g2 h3 g3
  rw [← hW]
  clear hW h1 g1 h2 g2 h3 g3
  have hT := hbx
  (with_reducible refine (fsmall_any _ (HT.out.below hT)).mono ?_)
  rintro e v0 ⟨rfl, hb⟩
  have hT := hT.trans (hb.mono hT.size)
  have q1 := q1.below hb
  have q2 := q2.below hb
  have q3 := q3.below hb
  have a0 := q1.c0
  have a1 := q1.c1
  have a2 := q1.c2
  have a3 := q1.c3
  go_wp2_with fail
  clear a0 a1 a2 a3
  by_cases hcf1 : n1 ≤ 6 ∧ m1 ≤ 6
  rotate_left
  · refine (ffew_any s1 t1 6 A1 B1 n1 d1 m1 e1 _ false (decide_eq_false (by omega))).mono ?_
    rintro e v ⟨rfl, hb⟩
    go_wp2_with fail
    go_ret
    exact ⟨rfl, hT.trans (hb.mono hT.size)⟩
  refine (ffew_any s1 t1 6 A1 B1 n1 d1 m1 e1 _ true (decide_eq_true (by omega))).mono ?_
  rintro e vf1 ⟨rfl, hb⟩
  have hT := hT.trans (hb.mono hT.size)
  have q1 := q1.below hb
  have q2 := q2.below hb
  have q3 := q3.below hb
  have HCf1 := Lib.hid hcf1; clear hcf1
  have a0 := q2.c0
  have a1 := q2.c1
  have a2 := q2.c2
  have a3 := q2.c3
  go_wp2_with fail
  clear a0 a1 a2 a3
  by_cases hcf2 : n2 ≤ 6 ∧ m2 ≤ 6
  rotate_left
  · refine (ffew_any s2 t2 6 A2 B2 n2 d2 m2 e2 _ false (decide_eq_false (by omega))).mono ?_
    rintro e v ⟨rfl, hb⟩
    go_wp2_with fail
    go_ret
    exact ⟨rfl, hT.trans (hb.mono hT.size)⟩
  refine (ffew_any s2 t2 6 A2 B2 n2 d2 m2 e2 _ true (decide_eq_true (by omega))).mono ?_
  rintro e vf2 ⟨rfl, hb⟩
  have hT := hT.trans (hb.mono hT.size)
  have q1 := q1.below hb
  have q2 := q2.below hb
  have q3 := q3.below hb
  have HCf2 := Lib.hid hcf2; clear hcf2
  have a0 := q3.c0
  have a1 := q3.c1
  have a2 := q3.c2
  have a3 := q3.c3
  go_wp2_with fail
  clear a0 a1 a2 a3
  by_cases hcf3 : n3 ≤ 6 ∧ m3 ≤ 6
  rotate_left
  · refine (ffew_any s3 t3 6 A3 B3 n3 d3 m3 e3 _ false (decide_eq_false (by omega))).mono ?_
    rintro e v ⟨rfl, hb⟩
    go_wp2_with fail
    go_ret
    exact ⟨rfl, hT.trans (hb.mono hT.size)⟩
  refine (ffew_any s3 t3 6 A3 B3 n3 d3 m3 e3 _ true (decide_eq_true (by omega))).mono ?_
  rintro e vf3 ⟨rfl, hb⟩
  have hT := hT.trans (hb.mono hT.size)
  have q1 := q1.below hb
  have q2 := q2.below hb
  have q3 := q3.below hb
  have HCf3 := Lib.hid hcf3; clear hcf3
  have a0 := q1.c0
  have a1 := q1.c1
  have a2 := q1.c2
  have a3 := q1.c3
  go_wp2_with fail
  clear a0 a1 a2 a3
  by_cases hcr1 : RF s1 l1 t1 k1
  rotate_left
  · refine (fright_any _ q1.a q1.b false (by simp [hcr1])).mono ?_
    rintro e v ⟨rfl, hb⟩
    go_wp2_with fail
    go_ret
    exact ⟨rfl, hT.trans (hb.mono hT.size)⟩
  refine (fright_any _ q1.a q1.b true (by simp [hcr1])).mono ?_
  rintro e vr1 ⟨rfl, hb⟩
  have hT := hT.trans (hb.mono hT.size)
  have q1 := q1.below hb
  have q2 := q2.below hb
  have q3 := q3.below hb
  have HCr1 := Lib.hid hcr1; clear hcr1
  have a0 := q2.c0
  have a1 := q2.c1
  have a2 := q2.c2
  have a3 := q2.c3
  go_wp2_with fail
  clear a0 a1 a2 a3
  by_cases hcr2 : RF s2 l2 t2 k2
  rotate_left
  · refine (fright_any _ q2.a q2.b false (by simp [hcr2])).mono ?_
    rintro e v ⟨rfl, hb⟩
    go_wp2_with fail
    go_ret
    exact ⟨rfl, hT.trans (hb.mono hT.size)⟩
  refine (fright_any _ q2.a q2.b true (by simp [hcr2])).mono ?_
  rintro e vr2 ⟨rfl, hb⟩
  have hT := hT.trans (hb.mono hT.size)
  have q1 := q1.below hb
  have q2 := q2.below hb
  have q3 := q3.below hb
  have HCr2 := Lib.hid hcr2; clear hcr2
  have a0 := q3.c0
  have a1 := q3.c1
  have a2 := q3.c2
  have a3 := q3.c3
  go_wp2_with fail
  clear a0 a1 a2 a3
  by_cases hcr3 : RF s3 l3 t3 k3
  rotate_left
  · refine (fright_any _ q3.a q3.b false (by simp [hcr3])).mono ?_
    rintro e v ⟨rfl, hb⟩
    go_wp2_with fail
    go_ret
    exact ⟨rfl, hT.trans (hb.mono hT.size)⟩
  refine (fright_any _ q3.a q3.b true (by simp [hcr3])).mono ?_
  rintro e vr3 ⟨rfl, hb⟩
  have hT := hT.trans (hb.mono hT.size)
  have q1 := q1.below hb
  have q2 := q2.below hb
  have q3 := q3.below hb
  have HCr3 := Lib.hid hcr3; clear hcr3
  obtain ⟨x, ka, hsa, _, hra⟩ := q1.bf HCr1.out
  have hra := hra 6 HCf1.out
  have HRa := Lib.hid hra; clear hra
  have HSa := Lib.hid hsa; clear hsa
  clear q1 HCr1 HCf1
  obtain ⟨y, kb, hsb, _, hrb⟩ := q2.bf HCr2.out
  have hrb := hrb 6 HCf2.out
  have HRb := Lib.hid hrb; clear hrb
  have HSb := Lib.hid hsb; clear hsb
  clear q2 HCr2 HCf2
  obtain ⟨z, kc, hsc, _, hrc⟩ := q3.bf HCr3.out
  have hrc := hrc 6 HCf3.out
  have HRc := Lib.hid hrc; clear hrc
  have HSc := Lib.hid hsc; clear hsc
  clear q3 HCr3 HCf3
  have za0 := ka.c0
  have za1 := ka.c1
  have za2 := ka.c2
  have za3 := ka.c3
  have zb0 := kb.c0
  have zb1 := kb.c1
  have zb2 := kb.c2
  have zb3 := kb.c3
  go_wp2_with fail
  clear za0 za1 za2 za3 zb0 zb1 zb2 zb3
  (with_reducible refine (radd _ ka.fv kb.fv HRa.out HRb.out (by decide)).mono ?_)
  rintro e u1 ⟨rs, rfl, hrs, hb9⟩
  have hT := hT.trans (hb9.mono hT.size)
  have ka := ka.below hb9
  have kb := kb.below hb9
  have kc := kc.below hb9
  obtain ⟨ss, As, ns, cs, ys, Bs, ms, es, rfl⟩ := hrs.form
  have hbs : Rb ((x + y)) 13 12 := Rb.add HRa.out HRb.out (by decide) (by decide) rfl
  have HRs := Lib.hid hbs; clear hbs
  go_wp2_with fail
  (with_reducible refine (rlright _ _ _ _ _ _ _ _ _ _ hrs.fv (HRs.out.mono (by decide) (by decide))).mono ?_)
  rintro e u2 ⟨rfl, hb9⟩
  have hT := hT.trans (hb9.mono hT.size)
  have ka := ka.below hb9
  have kb := kb.below hb9
  have kc := kc.below hb9
  have hrs := hrs.below hb9
  obtain ⟨Ws, hW, hbx, ks⟩ := fbox hrs
  have kbz := kb.below hbx
  have zb0 := kbz.c0
  have zb1 := kbz.c1
  have zb2 := kbz.c2
  have zb3 := kbz.c3
  have kaz := ka.below hbx
  have za0 := kaz.c0
  have za1 := kaz.c1
  have za2 := kaz.c2
  have za3 := kaz.c3
  rw [hW] at zb0 zb1 zb2 zb3 za0 za1 za2 za3
  go_wp2_with fail
  clear zb0 zb1 zb2 zb3 za0 za1 za2 za3
  clear kbz
  clear kaz
  rw [← hW]
  clear hW
  have hT := hT.trans (hbx.mono hT.size)
  have ka := ka.below hbx
  have kb := kb.below hbx
  have kc := kc.below hbx
  (with_reducible refine (radd _ kb.fv ka.fv HRb.out HRa.out (by decide)).mono ?_)
  rintro e u3 ⟨rt, rfl, hrt, hb9⟩
  have hT := hT.trans (hb9.mono hT.size)
  have ka := ka.below hb9
  have kb := kb.below hb9
  have kc := kc.below hb9
  have ks := ks.below hb9
  obtain ⟨st, At, nt, ct, yt, Bt, mt, et, rfl⟩ := hrt.form
  have hbt : Rb ((y + x)) 13 12 := Rb.add HRb.out HRa.out (by decide) (by decide) rfl
  have HRt := Lib.hid hbt; clear hbt
  go_wp2_with fail
  (with_reducible refine (rlright _ _ _ _ _ _ _ _ _ _ hrt.fv (HRt.out.mono (by decide) (by decide))).mono ?_)
  rintro e u4 ⟨rfl, hb9⟩
  have hT := hT.trans (hb9.mono hT.size)
  have ka := ka.below hb9
  have kb := kb.below hb9
  have kc := kc.below hb9
  have ks := ks.below hb9
  have hrt := hrt.below hb9
  obtain ⟨Wt, hW, hbx, kt⟩ := fbox hrt
  have kbz := kb.below hbx
  have zb0 := kbz.c0
  have zb1 := kbz.c1
  have zb2 := kbz.c2
  have zb3 := kbz.c3
  have kcz := kc.below hbx
  have zc0 := kcz.c0
  have zc1 := kcz.c1
  have zc2 := kcz.c2
  have zc3 := kcz.c3
  rw [hW] at zb0 zb1 zb2 zb3 zc0 zc1 zc2 zc3
  go_wp2_with fail
  clear zb0 zb1 zb2 zb3 zc0 zc1 zc2 zc3
  clear kbz
  clear kcz
  rw [← hW]
  clear hW
  have hT := hT.trans (hbx.mono hT.size)
  have ka := ka.below hbx
  have kb := kb.below hbx
  have kc := kc.below hbx
  have ks := ks.below hbx
  (with_reducible refine (radd _ kb.fv kc.fv HRb.out HRc.out (by decide)).mono ?_)
  rintro e u5 ⟨rv, rfl, hrv, hb9⟩
  have hT := hT.trans (hb9.mono hT.size)
  have ka := ka.below hb9
  have kb := kb.below hb9
  have kc := kc.below hb9
  have ks := ks.below hb9
  have kt := kt.below hb9
  obtain ⟨sv, Av, nv, cv, yv, Bv, mv, ev, rfl⟩ := hrv.form
  have hbv : Rb ((y + z)) 13 12 := Rb.add HRb.out HRc.out (by decide) (by decide) rfl
  have HRv := Lib.hid hbv; clear hbv
  go_wp2_with fail
  (with_reducible refine (rlright _ _ _ _ _ _ _ _ _ _ hrv.fv (HRv.out.mono (by decide) (by decide))).mono ?_)
  rintro e u6 ⟨rfl, hb9⟩
  have hT := hT.trans (hb9.mono hT.size)
  have ka := ka.below hb9
  have kb := kb.below hb9
  have kc := kc.below hb9
  have ks := ks.below hb9
  have kt := kt.below hb9
  have hrv := hrv.below hb9
  obtain ⟨Wv, hW, hbx, kv⟩ := fbox hrv
  have ksz := ks.below hbx
  have zs0 := ksz.c0
  have zs1 := ksz.c1
  have zs2 := ksz.c2
  have zs3 := ksz.c3
  have kcz := kc.below hbx
  have zc0 := kcz.c0
  have zc1 := kcz.c1
  have zc2 := kcz.c2
  have zc3 := kcz.c3
  rw [hW] at zs0 zs1 zs2 zs3 zc0 zc1 zc2 zc3
  go_wp2_with fail
  clear zs0 zs1 zs2 zs3 zc0 zc1 zc2 zc3
  clear ksz
  clear kcz
  rw [← hW]
  clear hW
  have hT := hT.trans (hbx.mono hT.size)
  have ka := ka.below hbx
  have kb := kb.below hbx
  have kc := kc.below hbx
  have ks := ks.below hbx
  have kt := kt.below hbx
  (with_reducible refine (radd _ ks.fv kc.fv HRs.out HRc.out (by decide)).mono ?_)
  rintro e u7 ⟨rx, rfl, hrx, hb9⟩
  have hT := hT.trans (hb9.mono hT.size)
  have ka := ka.below hb9
  have kb := kb.below hb9
  have kc := kc.below hb9
  have ks := ks.below hb9
  have kt := kt.below hb9
  have kv := kv.below hb9
  obtain ⟨sx, Ax, nx, cx, yx, Bx, mx, ex, rfl⟩ := hrx.form
  have hbx : Rb (((x + y) + z)) 20 18 := Rb.add HRs.out HRc.out (by decide) (by decide) rfl
  have HRx := Lib.hid hbx; clear hbx
  go_wp2_with fail
  (with_reducible refine (rlright _ _ _ _ _ _ _ _ _ _ hrx.fv (HRx.out.mono (by decide) (by decide))).mono ?_)
  rintro e u8 ⟨rfl, hb9⟩
  have hT := hT.trans (hb9.mono hT.size)
  have ka := ka.below hb9
  have kb := kb.below hb9
  have kc := kc.below hb9
  have ks := ks.below hb9
  have kt := kt.below hb9
  have kv := kv.below hb9
  have hrx := hrx.below hb9
  have nba_x : Nb A1 n1 u8.heap.size ∧ Nb B1 m1 u8.heap.size := ⟨Nb.low ka.fv.a (Nat.le_refl _), Nb.low ka.fv.b (Nat.le_refl _)⟩
  have nea_x : w.heap.size ≠ u8.heap.size := by have := ka.blk.lt; omega
  have nbb_x : Nb A2 n2 u8.heap.size ∧ Nb B2 m2 u8.heap.size := ⟨Nb.low kb.fv.a (Nat.le_refl _), Nb.low kb.fv.b (Nat.le_refl _)⟩
  have neb_x : w.heap.size + 1 ≠ u8.heap.size := by have := kb.blk.lt; omega
  have nbc_x : Nb A3 n3 u8.heap.size ∧ Nb B3 m3 u8.heap.size := ⟨Nb.low kc.fv.a (Nat.le_refl _), Nb.low kc.fv.b (Nat.le_refl _)⟩
  have nec_x : w.heap.size + 1 + 1 ≠ u8.heap.size := by have := kc.blk.lt; omega
  have nbs_x : Nb As ns u8.heap.size ∧ Nb Bs ms u8.heap.size := ⟨Nb.low ks.fv.a (Nat.le_refl _), Nb.low ks.fv.b (Nat.le_refl _)⟩
  have nes_x : u2.heap.size ≠ u8.heap.size := by have := ks.blk.lt; omega
  have nbt_x : Nb At nt u8.heap.size ∧ Nb Bt mt u8.heap.size := ⟨Nb.low kt.fv.a (Nat.le_refl _), Nb.low kt.fv.b (Nat.le_refl _)⟩
  have net_x : u4.heap.size ≠ u8.heap.size := by have := kt.blk.lt; omega
  have nbv_x : Nb Av nv u8.heap.size ∧ Nb Bv mv u8.heap.size := ⟨Nb.low kv.fv.a (Nat.le_refl _), Nb.low kv.fv.b (Nat.le_refl _)⟩
  have nev_x : u6.heap.size ≠ u8.heap.size := by have := kv.blk.lt; omega
  have gex := hT.size
  obtain ⟨Wx, hW, hbx, kx⟩ := fbox hrx
  have kaz := ka.below hbx
  have za0 := kaz.c0
  have za1 := kaz.c1
  have za2 := kaz.c2
  have za3 := kaz.c3
  have kvz := kv.below hbx
  have zv0 := kvz.c0
  have zv1 := kvz.c1
  have zv2 := kvz.c2
  have zv3 := kvz.c3
  rw [hW] at za0 za1 za2 za3 zv0 zv1 zv2 zv3
  go_wp2_with fail
  clear za0 za1 za2 za3 zv0 zv1 zv2 zv3
  clear kaz
  clear kvz
  rw [← hW]
  clear hW
  have hT := hT.trans (hbx.mono hT.size)
  have ka := ka.below hbx
  have kb := kb.below hbx
  have kc := kc.below hbx
  have ks := ks.below hbx
  have kt := kt.below hbx
  have kv := kv.below hbx
  have ltx := kx.blk.lt
  (with_reducible refine (radd _ ka.fv kv.fv HRa.out HRv.out (by decide)).mono ?_)
  rintro e u9 ⟨ry, rfl, hry, hb9⟩
  have hT := hT.trans (hb9.mono hT.size)
  have ka := ka.below hb9
  have kb := kb.below hb9
  have kc := kc.below hb9
  have ks := ks.below hb9
  have kt := kt.below hb9
  have kv := kv.below hb9
  have kx := kx.below hb9
  obtain ⟨sy, Ay, ny, cy, yy, By, my, ey, rfl⟩ := hry.form
  have nby_x := FO.nb hry ltx
  have hby : Rb ((x + (y + z))) 20 18 := Rb.add HRa.out HRv.out (by decide) (by decide) rfl
  have HRy := Lib.hid hby; clear hby
  go_wp2_with fail
  (with_reducible refine (rlright _ _ _ _ _ _ _ _ _ _ hry.fv (HRy.out.mono (by decide) (by decide))).mono ?_)
  rintro e u10 ⟨rfl, hb9⟩
  have hT := hT.trans (hb9.mono hT.size)
  have ka := ka.below hb9
  have kb := kb.below hb9
  have kc := kc.below hb9
  have ks := ks.below hb9
  have kt := kt.below hb9
  have kv := kv.below hb9
  have kx := kx.below hb9
  have hry := hry.below hb9
  have ney_x : u10.heap.size ≠ u8.heap.size := by have := kx.blk.lt; omega
  have nba_y : Nb A1 n1 u10.heap.size ∧ Nb B1 m1 u10.heap.size := ⟨Nb.low ka.fv.a (Nat.le_refl _), Nb.low ka.fv.b (Nat.le_refl _)⟩
  have nea_y : w.heap.size ≠ u10.heap.size := by have := ka.blk.lt; omega
  have nbb_y : Nb A2 n2 u10.heap.size ∧ Nb B2 m2 u10.heap.size := ⟨Nb.low kb.fv.a (Nat.le_refl _), Nb.low kb.fv.b (Nat.le_refl _)⟩
  have neb_y : w.heap.size + 1 ≠ u10.heap.size := by have := kb.blk.lt; omega
  have nbc_y : Nb A3 n3 u10.heap.size ∧ Nb B3 m3 u10.heap.size := ⟨Nb.low kc.fv.a (Nat.le_refl _), Nb.low kc.fv.b (Nat.le_refl _)⟩
  have nec_y : w.heap.size + 1 + 1 ≠ u10.heap.size := by have := kc.blk.lt; omega
  have nbs_y : Nb As ns u10.heap.size ∧ Nb Bs ms u10.heap.size := ⟨Nb.low ks.fv.a (Nat.le_refl _), Nb.low ks.fv.b (Nat.le_refl _)⟩
  have nes_y : u2.heap.size ≠ u10.heap.size := by have := ks.blk.lt; omega
  have nbt_y : Nb At nt u10.heap.size ∧ Nb Bt mt u10.heap.size := ⟨Nb.low kt.fv.a (Nat.le_refl _), Nb.low kt.fv.b (Nat.le_refl _)⟩
  have net_y : u4.heap.size ≠ u10.heap.size := by have := kt.blk.lt; omega
  have nbv_y : Nb Av nv u10.heap.size ∧ Nb Bv mv u10.heap.size := ⟨Nb.low kv.fv.a (Nat.le_refl _), Nb.low kv.fv.b (Nat.le_refl _)⟩
  have nev_y : u6.heap.size ≠ u10.heap.size := by have := kv.blk.lt; omega
  have nbx_y : Nb Ax nx u10.heap.size ∧ Nb Bx mx u10.heap.size := ⟨Nb.low kx.fv.a (Nat.le_refl _), Nb.low kx.fv.b (Nat.le_refl _)⟩
  have nex_y : u8.heap.size ≠ u10.heap.size := by have := kx.blk.lt; omega
  have gey := hT.size
  obtain ⟨Wy, hW, hbx, ky⟩ := fbox hry
  have ksz := ks.below hbx
  have zs0 := ksz.c0
  have zs1 := ksz.c1
  have zs2 := ksz.c2
  have zs3 := ksz.c3
  have ktz := kt.below hbx
  have zt0 := ktz.c0
  have zt1 := ktz.c1
  have zt2 := ktz.c2
  have zt3 := ktz.c3
  rw [hW] at zs0 zs1 zs2 zs3 zt0 zt1 zt2 zt3
  go_wp2_with fail
  clear zs0 zs1 zs2 zs3 zt0 zt1 zt2 zt3
  clear ksz
  clear ktz
  rw [← hW]
  clear hW
  have hT := hT.trans (hbx.mono hT.size)
  have ka := ka.below hbx
  have kb := kb.below hbx
  have kc := kc.below hbx
  have ks := ks.below hbx
  have kt := kt.below hbx
  have kv := kv.below hbx
  have kx := kx.below hbx
  (with_reducible refine (rsame _ ks.fv kt.fv true (decide_eq_true (show (x + y) = (y + x) from Rat.add_comm _ _))).mono ?_)
  rintro e u11 ⟨rfl, hb9⟩
  have hT := hT.trans (hb9.mono hT.size)
  have ka := ka.below hb9
  have kb := kb.below hb9
  have kc := kc.below hb9
  have ks := ks.below hb9
  have kt := kt.below hb9
  have kv := kv.below hb9
  have kx := kx.below hb9
  have ky := ky.below hb9
  have zx0 := kx.c0
  have zx1 := kx.c1
  have zx2 := kx.c2
  have zx3 := kx.c3
  have zy0 := ky.c0
  have zy1 := ky.c1
  have zy2 := ky.c2
  have zy3 := ky.c3
  go_wp2_with fail
  clear zx0 zx1 zx2 zx3 zy0 zy1 zy2 zy3
  (with_reducible refine (rsame _ kx.fv ky.fv true (decide_eq_true (show ((x + y) + z) = (x + (y + z)) from Rat.add_assoc _ _ _))).mono ?_)
  rintro e u12 ⟨rfl, hb9⟩
  have hT := hT.trans (hb9.mono hT.size)
  have ka := ka.below hb9
  have kb := kb.below hb9
  have kc := kc.below hb9
  have ks := ks.below hb9
  have kt := kt.below hb9
  have kv := kv.below hb9
  have kx := kx.below hb9
  have ky := ky.below hb9
  clear kt kv
  as_aux_lemma =>
    have za0 := ka.c0
    have za1 := ka.c1
    have za2 := ka.c2
    have za3 := ka.c3
    have zb0 := kb.c0
    have zb1 := kb.c1
    have zb2 := kb.c2
    have zb3 := kb.c3
    go_wp2_with fail
    clear za0 za1 za2 za3 zb0 zb1 zb2 zb3
    have ltx := kx.blk.lt
    have lty := ky.blk.lt
    (with_reducible refine (rmul _ ka.fv kb.fv HRa.out HRb.out (by decide)).mono ?_)
    rintro e u13 ⟨rm, rfl, hrm, hb9⟩
    have hT := hT.trans (hb9.mono hT.size)
    have ka := ka.below hb9
    have kb := kb.below hb9
    have kc := kc.below hb9
    have ks := ks.below hb9
    have kx := kx.below hb9
    have ky := ky.below hb9
    obtain ⟨sm, Am, nm, cm, ym, Bm, mm, em, rfl⟩ := hrm.form
    have nbm_x := FO.nb hrm ltx
    have nbm_y := FO.nb hrm lty
    have hbm : Rb ((x * y)) 12 12 := Rb.mul HRa.out HRb.out rfl rfl
    have HRm := Lib.hid hbm; clear hbm
    go_wp2_with fail
    (with_reducible refine (rlright _ _ _ _ _ _ _ _ _ _ hrm.fv (HRm.out.mono (by decide) (by decide))).mono ?_)
    rintro e u14 ⟨rfl, hb9⟩
    have hT := hT.trans (hb9.mono hT.size)
    have ka := ka.below hb9
    have kb := kb.below hb9
    have kc := kc.below hb9
    have ks := ks.below hb9
    have kx := kx.below hb9
    have ky := ky.below hb9
    have hrm := hrm.below hb9
    have nem_x : u14.heap.size ≠ u8.heap.size := by have := kx.blk.lt; omega
    have nem_y : u14.heap.size ≠ u10.heap.size := by have := ky.blk.lt; omega
    obtain ⟨Wm, hW, hbx, km⟩ := fbox hrm
    have kbz := kb.below hbx
    have zb0 := kbz.c0
    have zb1 := kbz.c1
    have zb2 := kbz.c2
    have zb3 := kbz.c3
    have kaz := ka.below hbx
    have za0 := kaz.c0
    have za1 := kaz.c1
    have za2 := kaz.c2
    have za3 := kaz.c3
    rw [hW] at zb0 zb1 zb2 zb3 za0 za1 za2 za3
    go_wp2_with fail
    clear zb0 zb1 zb2 zb3 za0 za1 za2 za3
    clear kbz
    clear kaz
    rw [← hW]
    clear hW
    have hT := hT.trans (hbx.mono hT.size)
    have ka := ka.below hbx
    have kb := kb.below hbx
    have kc := kc.below hbx
    have ks := ks.below hbx
    have kx := kx.below hbx
    have ky := ky.below hbx
    have ltx := kx.blk.lt
    have lty := ky.blk.lt
    (with_reducible refine (rmul _ kb.fv ka.fv HRb.out HRa.out (by decide)).mono ?_)
    rintro e u15 ⟨rn, rfl, hrn, hb9⟩
    have hT := hT.trans (hb9.mono hT.size)
    have ka := ka.below hb9
    have kb := kb.below hb9
    have kc := kc.below hb9
    have ks := ks.below hb9
    have kx := kx.below hb9
    have ky := ky.below hb9
    have km := km.below hb9
    obtain ⟨sn, An, nn, cn, yn, Bn, mn, en, rfl⟩ := hrn.form
    have nbn_x := FO.nb hrn ltx
    have nbn_y := FO.nb hrn lty
    have hbn : Rb ((y * x)) 12 12 := Rb.mul HRb.out HRa.out rfl rfl
    have HRn := Lib.hid hbn; clear hbn
    go_wp2_with fail
    (with_reducible refine (rlright _ _ _ _ _ _ _ _ _ _ hrn.fv (HRn.out.mono (by decide) (by decide))).mono ?_)
    rintro e u16 ⟨rfl, hb9⟩
    have hT := hT.trans (hb9.mono hT.size)
    have ka := ka.below hb9
    have kb := kb.below hb9
    have kc := kc.below hb9
    have ks := ks.below hb9
    have kx := kx.below hb9
    have ky := ky.below hb9
    have km := km.below hb9
    have hrn := hrn.below hb9
    have nen_x : u16.heap.size ≠ u8.heap.size := by have := kx.blk.lt; omega
    have nen_y : u16.heap.size ≠ u10.heap.size := by have := ky.blk.lt; omega
    obtain ⟨Wn, hW, hbx, kn⟩ := fbox hrn
    have kbz := kb.below hbx
    have zb0 := kbz.c0
    have zb1 := kbz.c1
    have zb2 := kbz.c2
    have zb3 := kbz.c3
    have kcz := kc.below hbx
    have zc0 := kcz.c0
    have zc1 := kcz.c1
    have zc2 := kcz.c2
    have zc3 := kcz.c3
    rw [hW] at zb0 zb1 zb2 zb3 zc0 zc1 zc2 zc3
    go_wp2_with fail
    clear zb0 zb1 zb2 zb3 zc0 zc1 zc2 zc3
    clear kbz
    clear kcz
    rw [← hW]
    clear hW
    have hT := hT.trans (hbx.mono hT.size)
    have ka := ka.below hbx
    have kb := kb.below hbx
    have kc := kc.below hbx
    have ks := ks.below hbx
    have kx := kx.below hbx
    have ky := ky.below hbx
    have km := km.below hbx
    have ltx := kx.blk.lt
    have lty := ky.blk.lt
    (with_reducible refine (rmul _ kb.fv kc.fv HRb.out HRc.out (by decide)).mono ?_)
    rintro e u17 ⟨rp, rfl, hrp, hb9⟩
    have hT := hT.trans (hb9.mono hT.size)
    have ka := ka.below hb9
    have kb := kb.below hb9
    have kc := kc.below hb9
    have ks := ks.below hb9
    have kx := kx.below hb9
    have ky := ky.below hb9
    have km := km.below hb9
    have kn := kn.below hb9
    obtain ⟨sp, Ap, np, cp, yp, Bp, mp, ep, rfl⟩ := hrp.form
    have nbp_x := FO.nb hrp ltx
    have nbp_y := FO.nb hrp lty
    have hbp : Rb ((y * z)) 12 12 := Rb.mul HRb.out HRc.out rfl rfl
    have HRp := Lib.hid hbp; clear hbp
    go_wp2_with fail
    (with_reducible refine (rlright _ _ _ _ _ _ _ _ _ _ hrp.fv (HRp.out.mono (by decide) (by decide))).mono ?_)
    rintro e u18 ⟨rfl, hb9⟩
    have hT := hT.trans (hb9.mono hT.size)
    have ka := ka.below hb9
    have kb := kb.below hb9
    have kc := kc.below hb9
    have ks := ks.below hb9
    have kx := kx.below hb9
    have ky := ky.below hb9
    have km := km.below hb9
    have kn := kn.below hb9
    have hrp := hrp.below hb9
    have nep_x : u18.heap.size ≠ u8.heap.size := by have := kx.blk.lt; omega
    have nep_y : u18.heap.size ≠ u10.heap.size := by have := ky.blk.lt; omega
    obtain ⟨Wp, hW, hbx, kp⟩ := fbox hrp
    have kmz := km.below hbx
    have zm0 := kmz.c0
    have zm1 := kmz.c1
    have zm2 := kmz.c2
    have zm3 := kmz.c3
    have kcz := kc.below hbx
    have zc0 := kcz.c0
    have zc1 := kcz.c1
    have zc2 := kcz.c2
    have zc3 := kcz.c3
    rw [hW] at zm0 zm1 zm2 zm3 zc0 zc1 zc2 zc3
    go_wp2_with fail
    clear zm0 zm1 zm2 zm3 zc0 zc1 zc2 zc3
    clear kmz
    clear kcz
    rw [← hW]
    clear hW
    have hT := hT.trans (hbx.mono hT.size)
    have ka := ka.below hbx
    have kb := kb.below hbx
    have kc := kc.below hbx
    have ks := ks.below hbx
    have kx := kx.below hbx
    have ky := ky.below hbx
    have km := km.below hbx
    have kn := kn.below hbx
    have ltx := kx.blk.lt
    have lty := ky.blk.lt
    (with_reducible refine (rmul _ km.fv kc.fv HRm.out HRc.out (by decide)).mono ?_)
    rintro e u19 ⟨ri, rfl, hri, hb9⟩
    have hT := hT.trans (hb9.mono hT.size)
    have ka := ka.below hb9
    have kb := kb.below hb9
    have kc := kc.below hb9
    have ks := ks.below hb9
    have kx := kx.below hb9
    have ky := ky.below hb9
    have km := km.below hb9
    have kn := kn.below hb9
    have kp := kp.below hb9
    obtain ⟨si, Ai, ni, ci, yi, Bi, mi, ei, rfl⟩ := hri.form
    have nbi_x := FO.nb hri ltx
    have nbi_y := FO.nb hri lty
    have hbi : Rb (((x * y) * z)) 18 18 := Rb.mul HRm.out HRc.out rfl rfl
    have HRi := Lib.hid hbi; clear hbi
    go_wp2_with fail
    (with_reducible refine (rlright _ _ _ _ _ _ _ _ _ _ hri.fv (HRi.out.mono (by decide) (by decide))).mono ?_)
    rintro e u20 ⟨rfl, hb9⟩
    have hT := hT.trans (hb9.mono hT.size)
    have ka := ka.below hb9
    have kb := kb.below hb9
    have kc := kc.below hb9
    have ks := ks.below hb9
    have kx := kx.below hb9
    have ky := ky.below hb9
    have km := km.below hb9
    have kn := kn.below hb9
    have kp := kp.below hb9
    have hri := hri.below hb9
    have t0 := kx.c0
    have f0 := kx.blk.frozen 0
    have t1 := kx.c1
    have f1 := kx.blk.frozen 1
    have t2 := kx.c2
    have f2 := kx.blk.frozen 2
    have t3 := kx.c3
    have f3 := kx.blk.frozen 3
    have kaz := ka.set4 nea_x nba_x.1 nba_x.2 (.int .i64 si) (.slice Ai ni ci) (.int .i64 yi) (.slice Bi mi ei)
    have kbz := kb.set4 neb_x nbb_x.1 nbb_x.2 (.int .i64 si) (.slice Ai ni ci) (.int .i64 yi) (.slice Bi mi ei)
    have kcz := kc.set4 nec_x nbc_x.1 nbc_x.2 (.int .i64 si) (.slice Ai ni ci) (.int .i64 yi) (.slice Bi mi ei)
    have ksz := ks.set4 nes_x nbs_x.1 nbs_x.2 (.int .i64 si) (.slice Ai ni ci) (.int .i64 yi) (.slice Bi mi ei)
    have kyz := ky.set4 ney_x nby_x.1 nby_x.2 (.int .i64 si) (.slice Ai ni ci) (.int .i64 yi) (.slice Bi mi ei)
    have kmz := km.set4 nem_x nbm_x.1 nbm_x.2 (.int .i64 si) (.slice Ai ni ci) (.int .i64 yi) (.slice Bi mi ei)
    have knz := kn.set4 nen_x nbn_x.1 nbn_x.2 (.int .i64 si) (.slice Ai ni ci) (.int .i64 yi) (.slice Bi mi ei)
    have kpz := kp.set4 nep_x nbp_x.1 nbp_x.2 (.int .i64 si) (.slice Ai ni ci) (.int .i64 yi) (.slice Bi mi ei)
    have kxz := Bf.put kx.blk hri.fv.a hri.fv.b nbi_x.1 nbi_x.2
    have za0 := kaz.c0
    have za1 := kaz.c1
    have za2 := kaz.c2
    have za3 := kaz.c3
    have zp0 := kpz.c0
    have zp1 := kpz.c1
    have zp2 := kpz.c2
    have zp3 := kpz.c3
    go_wp2_with fail
    clear za0 za1 za2 za3 zp0 zp1 zp2 zp3
    clear t0 t1 t2 t3 f0 f1 f2 f3
    have hT := below_st4 hT gex (.int .i64 si) (.slice Ai ni ci) (.int .i64 yi) (.slice Bi mi ei)
    generalize (((u20.setCell ⟨u8.heap.size, 0, none⟩ (.int .i64 si)).setCell ⟨u8.heap.size, 1, none⟩ (.slice Ai ni ci)).setCell ⟨u8.heap.size, 2, none⟩ (.int .i64 yi)).setCell ⟨u8.heap.size, 3, none⟩ (.slice Bi mi ei) = Vi at *
    have ka := kaz; clear kaz
    have kb := kbz; clear kbz
    have kc := kcz; clear kcz
    have ks := ksz; clear ksz
    have kx := kxz; clear kxz
    have ky := kyz; clear kyz
    have km := kmz; clear kmz
    have kn := knz; clear knz
    have kp := kpz; clear kpz
    have HRx := HRi
    have nbx_y := nbi_y
    have ltx := kx.blk.lt
    have lty := ky.blk.lt
    (with_reducible refine (rmul _ ka.fv kp.fv HRa.out HRp.out (by decide)).mono ?_)
    rintro e u21 ⟨rj, rfl, hrj, hb9⟩
    have hT := hT.trans (hb9.mono hT.size)
    have ka := ka.below hb9
    have kb := kb.below hb9
    have kc := kc.below hb9
    have ks := ks.below hb9
    have kx := kx.below hb9
    have ky := ky.below hb9
    have km := km.below hb9
    have kn := kn.below hb9
    have kp := kp.below hb9
    obtain ⟨sj, Aj, nj, cj, yj, Bj, mj, ej, rfl⟩ := hrj.form
    have nbj_x := FO.nb hrj ltx
    have nbj_y := FO.nb hrj lty
    have hbj : Rb ((x * (y * z))) 18 18 := Rb.mul HRa.out HRp.out rfl rfl
    have HRj := Lib.hid hbj; clear hbj
    go_wp2_with fail
    (with_reducible refine (rlright _ _ _ _ _ _ _ _ _ _ hrj.fv (HRj.out.mono (by decide) (by decide))).mono ?_)
    rintro e u22 ⟨rfl, hb9⟩
    have hT := hT.trans (hb9.mono hT.size)
    have ka := ka.below hb9
    have kb := kb.below hb9
    have kc := kc.below hb9
    have ks := ks.below hb9
    have kx := kx.below hb9
    have ky := ky.below hb9
    have km := km.below hb9
    have kn := kn.below hb9
    have kp := kp.below hb9
    have hrj := hrj.below hb9
    have t0 := ky.c0
    have f0 := ky.blk.frozen 0
    have t1 := ky.c1
    have f1 := ky.blk.frozen 1
    have t2 := ky.c2
    have f2 := ky.blk.frozen 2
    have t3 := ky.c3
    have f3 := ky.blk.frozen 3
    have kaz := ka.set4 nea_y nba_y.1 nba_y.2 (.int .i64 sj) (.slice Aj nj cj) (.int .i64 yj) (.slice Bj mj ej)
    have kbz := kb.set4 neb_y nbb_y.1 nbb_y.2 (.int .i64 sj) (.slice Aj nj cj) (.int .i64 yj) (.slice Bj mj ej)
    have kcz := kc.set4 nec_y nbc_y.1 nbc_y.2 (.int .i64 sj) (.slice Aj nj cj) (.int .i64 yj) (.slice Bj mj ej)
    have ksz := ks.set4 nes_y nbs_y.1 nbs_y.2 (.int .i64 sj) (.slice Aj nj cj) (.int .i64 yj) (.slice Bj mj ej)
    have kxz := kx.set4 nex_y nbx_y.1 nbx_y.2 (.int .i64 sj) (.slice Aj nj cj) (.int .i64 yj) (.slice Bj mj ej)
    have kmz := km.set4 nem_y nbm_y.1 nbm_y.2 (.int .i64 sj) (.slice Aj nj cj) (.int .i64 yj) (.slice Bj mj ej)
    have knz := kn.set4 nen_y nbn_y.1 nbn_y.2 (.int .i64 sj) (.slice Aj nj cj) (.int .i64 yj) (.slice Bj mj ej)
    have kpz := kp.set4 nep_y nbp_y.1 nbp_y.2 (.int .i64 sj) (.slice Aj nj cj) (.int .i64 yj) (.slice Bj mj ej)
    have kyz := Bf.put ky.blk hrj.fv.a hrj.fv.b nbj_y.1 nbj_y.2
    have zm0 := kmz.c0
    have zm1 := kmz.c1
    have zm2 := kmz.c2
    have zm3 := kmz.c3
    have zn0 := knz.c0
    have zn1 := knz.c1
    have zn2 := knz.c2
    have zn3 := knz.c3
    go_wp2_with fail
    clear zm0 zm1 zm2 zm3 zn0 zn1 zn2 zn3
    clear t0 t1 t2 t3 f0 f1 f2 f3
    have hT := below_st4 hT gey (.int .i64 sj) (.slice Aj nj cj) (.int .i64 yj) (.slice Bj mj ej)
    generalize (((u22.setCell ⟨u10.heap.size, 0, none⟩ (.int .i64 sj)).setCell ⟨u10.heap.size, 1, none⟩ (.slice Aj nj cj)).setCell ⟨u10.heap.size, 2, none⟩ (.int .i64 yj)).setCell ⟨u10.heap.size, 3, none⟩ (.slice Bj mj ej) = Vj at *
    have ka := kaz; clear kaz
    have kb := kbz; clear kbz
    have kc := kcz; clear kcz
    have ks := ksz; clear ksz
    have kx := kxz; clear kxz
    have ky := kyz; clear kyz
    have km := kmz; clear kmz
    have kn := knz; clear knz
    have kp := kpz; clear kpz
    have HRy := HRj
    have nby_x := nbj_x
    (with_reducible refine (rsame _ km.fv kn.fv true (decide_eq_true (show (x * y) = (y * x) from Rat.mul_comm _ _))).mono ?_)
    rintro e u23 ⟨rfl, hb9⟩
    have hT := hT.trans (hb9.mono hT.size)
    have ka := ka.below hb9
    have kb := kb.below hb9
    have kc := kc.below hb9
    have ks := ks.below hb9
    have kx := kx.below hb9
    have ky := ky.below hb9
    have km := km.below hb9
    have kn := kn.below hb9
    have kp := kp.below hb9
    have zx0 := kx.c0
    have zx1 := kx.c1
    have zx2 := kx.c2
    have zx3 := kx.c3
    have zy0 := ky.c0
    have zy1 := ky.c1
    have zy2 := ky.c2
    have zy3 := ky.c3
    go_wp2_with fail
    clear zx0 zx1 zx2 zx3 zy0 zy1 zy2 zy3
    (with_reducible refine (rsame _ kx.fv ky.fv true (decide_eq_true (show ((x * y) * z) = (x * (y * z)) from Rat.mul_assoc _ _ _))).mono ?_)
    rintro e u24 ⟨rfl, hb9⟩
    have hT := hT.trans (hb9.mono hT.size)
    have ka := ka.below hb9
    have kb := kb.below hb9
    have kc := kc.below hb9
    have ks := ks.below hb9
    have kx := kx.below hb9
    have ky := ky.below hb9
    have km := km.below hb9
    have kn := kn.below hb9
    have kp := kp.below hb9
    clear kn
    as_aux_lemma =>
      have za0 := ka.c0
      have za1 := ka.c1
      have za2 := ka.c2
      have za3 := ka.c3
      have zc0 := kc.c0
      have zc1 := kc.c1
      have zc2 := kc.c2
      have zc3 := kc.c3
      go_wp2_with fail
      clear za0 za1 za2 za3 zc0 zc1 zc2 zc3
      have ltx := kx.blk.lt
      have lty := ky.blk.lt
      (with_reducible refine (rmul _ ka.fv kc.fv HRa.out HRc.out (by decide)).mono ?_)
      rintro e u25 ⟨rq, rfl, hrq, hb9⟩
      have hT := hT.trans (hb9.mono hT.size)
      have ka := ka.below hb9
      have kb := kb.below hb9
      have kc := kc.below hb9
      have ks := ks.below hb9
      have kx := kx.below hb9
      have ky := ky.below hb9
      have km := km.below hb9
      have kp := kp.below hb9
      obtain ⟨sq, Aq, nq, cq, yq, Bq, mq, eq, rfl⟩ := hrq.form
      have nbq_x := FO.nb hrq ltx
      have nbq_y := FO.nb hrq lty
      have hbq : Rb ((x * z)) 12 12 := Rb.mul HRa.out HRc.out rfl rfl
      have HRq := Lib.hid hbq; clear hbq
      go_wp2_with fail
      (with_reducible refine (rlright _ _ _ _ _ _ _ _ _ _ hrq.fv (HRq.out.mono (by decide) (by decide))).mono ?_)
      rintro e u26 ⟨rfl, hb9⟩
      have hT := hT.trans (hb9.mono hT.size)
      have ka := ka.below hb9
      have kb := kb.below hb9
      have kc := kc.below hb9
      have ks := ks.below hb9
      have kx := kx.below hb9
      have ky := ky.below hb9
      have km := km.below hb9
      have kp := kp.below hb9
      have hrq := hrq.below hb9
      have neq_x : u26.heap.size ≠ u8.heap.size := by have := kx.blk.lt; omega
      have neq_y : u26.heap.size ≠ u10.heap.size := by have := ky.blk.lt; omega
      obtain ⟨Wq, hW, hbx, kq⟩ := fbox hrq
      have ksz := ks.below hbx
      have zs0 := ksz.c0
      have zs1 := ksz.c1
      have zs2 := ksz.c2
      have zs3 := ksz.c3
      have kcz := kc.below hbx
      have zc0 := kcz.c0
      have zc1 := kcz.c1
      have zc2 := kcz.c2
      have zc3 := kcz.c3
      rw [hW] at zs0 zs1 zs2 zs3 zc0 zc1 zc2 zc3
      go_wp2_with fail
      clear zs0 zs1 zs2 zs3 zc0 zc1 zc2 zc3
      clear ksz
      clear kcz
      rw [← hW]
      clear hW
      have hT := hT.trans (hbx.mono hT.size)
      have ka := ka.below hbx
      have kb := kb.below hbx
      have kc := kc.below hbx
      have ks := ks.below hbx
      have kx := kx.below hbx
      have ky := ky.below hbx
      have km := km.below hbx
      have kp := kp.below hbx
      have ltx := kx.blk.lt
      have lty := ky.blk.lt
      (with_reducible refine (rmul _ ks.fv kc.fv HRs.out HRc.out (by decide)).mono ?_)
      rintro e u27 ⟨rk, rfl, hrk, hb9⟩
      have hT := hT.trans (hb9.mono hT.size)
      have ka := ka.below hb9
      have kb := kb.below hb9
      have kc := kc.below hb9
      have ks := ks.below hb9
      have kx := kx.below hb9
      have ky := ky.below hb9
      have km := km.below hb9
      have kp := kp.below hb9
      have kq := kq.below hb9
      obtain ⟨sk, Ak, nk, ck, yk, Bk, mk, ek, rfl⟩ := hrk.form
      have nbk_x := FO.nb hrk ltx
      have nbk_y := FO.nb hrk lty
      have hbk : Rb (((x + y) * z)) 19 18 := Rb.mul HRs.out HRc.out rfl rfl
      have HRk := Lib.hid hbk; clear hbk
      go_wp2_with fail
      (with_reducible refine (rlright _ _ _ _ _ _ _ _ _ _ hrk.fv (HRk.out.mono (by decide) (by decide))).mono ?_)
      rintro e u28 ⟨rfl, hb9⟩
      have hT := hT.trans (hb9.mono hT.size)
      have ka := ka.below hb9
      have kb := kb.below hb9
      have kc := kc.below hb9
      have ks := ks.below hb9
      have kx := kx.below hb9
      have ky := ky.below hb9
      have km := km.below hb9
      have kp := kp.below hb9
      have kq := kq.below hb9
      have hrk := hrk.below hb9
      have t0 := kx.c0
      have f0 := kx.blk.frozen 0
      have t1 := kx.c1
      have f1 := kx.blk.frozen 1
      have t2 := kx.c2
      have f2 := kx.blk.frozen 2
      have t3 := kx.c3
      have f3 := kx.blk.frozen 3
      have kaz := ka.set4 nea_x nba_x.1 nba_x.2 (.int .i64 sk) (.slice Ak nk ck) (.int .i64 yk) (.slice Bk mk ek)
      have kbz := kb.set4 neb_x nbb_x.1 nbb_x.2 (.int .i64 sk) (.slice Ak nk ck) (.int .i64 yk) (.slice Bk mk ek)
      have kcz := kc.set4 nec_x nbc_x.1 nbc_x.2 (.int .i64 sk) (.slice Ak nk ck) (.int .i64 yk) (.slice Bk mk ek)
      have ksz := ks.set4 nes_x nbs_x.1 nbs_x.2 (.int .i64 sk) (.slice Ak nk ck) (.int .i64 yk) (.slice Bk mk ek)
      have kyz := ky.set4 ney_x nby_x.1 nby_x.2 (.int .i64 sk) (.slice Ak nk ck) (.int .i64 yk) (.slice Bk mk ek)
      have kmz := km.set4 nem_x nbm_x.1 nbm_x.2 (.int .i64 sk) (.slice Ak nk ck) (.int .i64 yk) (.slice Bk mk ek)
      have kpz := kp.set4 nep_x nbp_x.1 nbp_x.2 (.int .i64 sk) (.slice Ak nk ck) (.int .i64 yk) (.slice Bk mk ek)
      have kqz := kq.set4 neq_x nbq_x.1 nbq_x.2 (.int .i64 sk) (.slice Ak nk ck) (.int .i64 yk) (.slice Bk mk ek)
      have kxz := Bf.put kx.blk hrk.fv.a hrk.fv.b nbk_x.1 nbk_x.2
      have zq0 := kqz.c0
      have zq1 := kqz.c1
      have zq2 := kqz.c2
      have zq3 := kqz.c3
      have zp0 := kpz.c0
      have zp1 := kpz.c1
      have zp2 := kpz.c2
      have zp3 := kpz.c3
      go_wp2_with fail
      clear zq0 zq1 zq2 zq3 zp0 zp1 zp2 zp3
      clear t0 t1 t2 t3 f0 f1 f2 f3
      have hT := below_st4 hT gex (.int .i64 sk) (.slice Ak nk ck) (.int .i64 yk) (.slice Bk mk ek)
      generalize (((u28.setCell ⟨u8.heap.size, 0, none⟩ (.int .i64 sk)).setCell ⟨u8.heap.size, 1, none⟩ (.slice Ak nk ck)).setCell ⟨u8.heap.size, 2, none⟩ (.int .i64 yk)).setCell ⟨u8.heap.size, 3, none⟩ (.slice Bk mk ek) = Vk at *
      have ka := kaz; clear kaz
      have kb := kbz; clear kbz
      have kc := kcz; clear kcz
      have ks := ksz; clear ksz
      have kx := kxz; clear kxz
      have ky := kyz; clear kyz
      have km := kmz; clear kmz
      have kp := kpz; clear kpz
      have kq := kqz; clear kqz
      have HRx := HRk
      have nbx_y := nbk_y
      have ltx := kx.blk.lt
      have lty := ky.blk.lt
      (with_reducible refine (radd _ kq.fv kp.fv HRq.out HRp.out (by decide)).mono ?_)
      rintro e u29 ⟨rl, rfl, hrl, hb9⟩
      have hT := hT.trans (hb9.mono hT.size)
      have ka := ka.below hb9
      have kb := kb.below hb9
      have kc := kc.below hb9
      have ks := ks.below hb9
      have kx := kx.below hb9
      have ky := ky.below hb9
      have km := km.below hb9
      have kp := kp.below hb9
      have kq := kq.below hb9
      obtain ⟨sl, Al, nl, cl, yl, Bl, ml, el, rfl⟩ := hrl.form
      have nbl_x := FO.nb hrl ltx
      have nbl_y := FO.nb hrl lty
      have hbl : Rb (((x * z) + (y * z))) 25 24 := Rb.add HRq.out HRp.out (by decide) (by decide) rfl
      have HRl := Lib.hid hbl; clear hbl
      go_wp2_with fail
      (with_reducible refine (rlright _ _ _ _ _ _ _ _ _ _ hrl.fv (HRl.out.mono (by decide) (by decide))).mono ?_)
      rintro e u30 ⟨rfl, hb9⟩
      have hT := hT.trans (hb9.mono hT.size)
      have ka := ka.below hb9
      have kb := kb.below hb9
      have kc := kc.below hb9
      have ks := ks.below hb9
      have kx := kx.below hb9
      have ky := ky.below hb9
      have km := km.below hb9
      have kp := kp.below hb9
      have kq := kq.below hb9
      have hrl := hrl.below hb9
      have t0 := ky.c0
      have f0 := ky.blk.frozen 0
      have t1 := ky.c1
      have f1 := ky.blk.frozen 1
      have t2 := ky.c2
      have f2 := ky.blk.frozen 2
      have t3 := ky.c3
      have f3 := ky.blk.frozen 3
      have kaz := ka.set4 nea_y nba_y.1 nba_y.2 (.int .i64 sl) (.slice Al nl cl) (.int .i64 yl) (.slice Bl ml el)
      have kbz := kb.set4 neb_y nbb_y.1 nbb_y.2 (.int .i64 sl) (.slice Al nl cl) (.int .i64 yl) (.slice Bl ml el)
      have kcz := kc.set4 nec_y nbc_y.1 nbc_y.2 (.int .i64 sl) (.slice Al nl cl) (.int .i64 yl) (.slice Bl ml el)
      have ksz := ks.set4 nes_y nbs_y.1 nbs_y.2 (.int .i64 sl) (.slice Al nl cl) (.int .i64 yl) (.slice Bl ml el)
      have kxz := kx.set4 nex_y nbx_y.1 nbx_y.2 (.int .i64 sl) (.slice Al nl cl) (.int .i64 yl) (.slice Bl ml el)
      have kmz := km.set4 nem_y nbm_y.1 nbm_y.2 (.int .i64 sl) (.slice Al nl cl) (.int .i64 yl) (.slice Bl ml el)
      have kpz := kp.set4 nep_y nbp_y.1 nbp_y.2 (.int .i64 sl) (.slice Al nl cl) (.int .i64 yl) (.slice Bl ml el)
      have kqz := kq.set4 neq_y nbq_y.1 nbq_y.2 (.int .i64 sl) (.slice Al nl cl) (.int .i64 yl) (.slice Bl ml el)
      have kyz := Bf.put ky.blk hrl.fv.a hrl.fv.b nbl_y.1 nbl_y.2
      go_wp2_with fail
      clear t0 t1 t2 t3 f0 f1 f2 f3
      have hT := below_st4 hT gey (.int .i64 sl) (.slice Al nl cl) (.int .i64 yl) (.slice Bl ml el)
      generalize (((u30.setCell ⟨u10.heap.size, 0, none⟩ (.int .i64 sl)).setCell ⟨u10.heap.size, 1, none⟩ (.slice Al nl cl)).setCell ⟨u10.heap.size, 2, none⟩ (.int .i64 yl)).setCell ⟨u10.heap.size, 3, none⟩ (.slice Bl ml el) = Vl at *
      have ka := kaz; clear kaz
      have kb := kbz; clear kbz
      have kc := kcz; clear kcz
      have ks := ksz; clear ksz
      have kx := kxz; clear kxz
      have ky := kyz; clear kyz
      have km := kmz; clear kmz
      have kp := kpz; clear kpz
      have kq := kqz; clear kqz
      have HRy := HRl
      have nby_x := nbl_x
      clear kq kp
      have e0 : ∀ W' : World, Below Vl.heap.size Vl W' → W'.cell? ⟨w.heap.size, 0, none⟩ = some (.int .i64 s1) ∧ W'.cell? ⟨w.heap.size, 1, none⟩ = some (.slice A1 n1 d1) ∧ W'.cell? ⟨w.heap.size, 2, none⟩ = some (.int .i64 t1) ∧ W'.cell? ⟨w.heap.size, 3, none⟩ = some (.slice B1 m1 e1) ∧ Below Vl.heap.size Vl W' := fun W' hW =>
        ⟨(ka.below hW).c0, (ka.below hW).c1, (ka.below hW).c2, (ka.below hW).c3, hW⟩
      have E0 := Lib.hid e0; clear e0
      have hB00 : Below Vl.heap.size Vl Vl.drew := (Below.refl _ _).drew
      have hml := fun (w' : World) (hb : Below Vl.heap.size Vl w') s1 A1 n1 d1 s2 A2 n2 d2 (h : FV w' w'.heap.size s1 A1 n1 d1 s2 A2 n2 d2 (Rat.divInt 0 1).num (Rat.divInt 0 1).den) => radd w' (ka.below hb).fv h HRa.out (rb_lit 0 1 (by decide) (ab_small (by decide)) (ab_small (by decide))) (by decide)
      rw [show x + Rat.divInt 0 1 = x by rw [show Rat.divInt 0 1 = 0 by decide]; exact Rat.add_zero x] at hml
      unfold RetF at hml
      have HML := Lib.hid hml; clear hml
      have hTs := hT.size
      go_upto_region 21 with fail
      go_cut [22, 15] from 233 to 241 (fun p e wx => ∃ (g : Nat) (s : Int) (A : Option Addr) (n c : Nat) (s' : Int) (A' : Option Addr) (n' c' : Nat), p = .pointer (some ⟨g, 0, none⟩) ∧ e = .bool true ∧ Bf 43 wx g s A n c s' A' n' c' x.num x.den ∧ Below Vl.heap.size Vl wx)
      case first =>
        go_region_held3 (fun W' => W'.cell? ⟨w.heap.size, 0, none⟩ = some (.int .i64 s1) ∧ W'.cell? ⟨w.heap.size, 1, none⟩ = some (.slice A1 n1 d1) ∧ W'.cell? ⟨w.heap.size, 2, none⟩ = some (.int .i64 t1) ∧ W'.cell? ⟨w.heap.size, 3, none⟩ = some (.slice B1 m1 e1) ∧ Below Vl.heap.size Vl W')
          (first | exact E0.out _ (below_st4 hB6 hge _ _ _ _) | exact E0.out _ (below_new hB6 _) | exact E0.out _ (below_new hB5 _) | exact E0.out _ (below_new hB4 _) | exact E0.out _ (below_new hB00 _) | exact E0.out _ (by assumption) | exact E0.out _ ⟨rfl, rfl, rfl, Nat.le_refl _, fun _ _ => rfl⟩)
          (first
            | (go_at_call 63; have _h := hB5; (first | refine (rlright _ _ _ _ _ _ _ _ _ _ hrd.fv (HRa.out.mono (by decide) (by decide))).mono ?_ | refine (rlright _ _ _ _ _ _ _ _ _ _ (hrd.below ((Below.refl _ _).alloc (Nat.le_refl _) _)).fv (HRa.out.mono (by decide) (by decide))).mono ?_); rintro e x6 ⟨rfl, hb6⟩; have hB6 : Below Vl.heap.size Vl x6 := (by first | exact hB5.trans (hb6.mono hB5.size) | exact (below_new hB5 _).trans (hb6.mono (below_new hB5 _).size)); have hq6 := (by first | exact hrd.below hb6 | exact (hrd.below ((Below.refl _ _).alloc (Nat.le_refl _) _)).below hb6); (try (have hk6 := blk_run4 (b := x5) hb6; have hge := hB5.size; have hnb : Nb Ad nd x5.heap.size ∧ Nb Bd md x5.heap.size := ⟨Nb.low hrd.fv.a (Nat.le_refl _), Nb.low hrd.fv.b (Nat.le_refl _)⟩; have z0 := hk6.cell 0; have z1 := hk6.cell 1; have z2 := hk6.cell 2; have z3 := hk6.cell 3; have y0 := hk6.frozen 0; have y1 := hk6.frozen 1; have y2 := hk6.frozen 2; have y3 := hk6.frozen 3)); (try (have hk6 := hk5.below hb6 hk5.lt; have hnb := FO.nb hrd hlt; have z0 := hk6.cell 0; have z1 := hk6.cell 1; have z2 := hk6.cell 2; have z3 := hk6.cell 3; have y0 := hk6.frozen 0; have y1 := hk6.frozen 1; have y2 := hk6.frozen 2; have y3 := hk6.frozen 3)))
            | (go_at_call 39; have _h := hB4; (first | refine (HML.out _ hB4 _ _ _ _ _ _ _ _ hq1.fv).mono ?_ | refine (HML.out _ (below_new hB4 _) _ _ _ _ _ _ _ _ (hq1.below ((Below.refl _ _).alloc (Nat.le_refl _) _)).fv).mono ?_); rintro e x5 ⟨rd, rfl, hrd, hb5⟩; have hB5 : Below Vl.heap.size Vl x5 := (by first | exact hB4.trans (hb5.mono hB4.size) | exact (below_new hB4 _).trans (hb5.mono (below_new hB4 _).size)); obtain ⟨sd, Ad, nd, cd, yd, Bd, md, ed, rfl⟩ := hrd.form; (try (have hk5 := blk_run4 (b := x4) hb5; have hge := hB4.size; have hlt : x4.heap.size < (x4.alloc (.cells #[.int .i64 0, .slice none 0 0, .int .i64 0, .slice none 0 0] 43)).heap.size := (by simp))); (try (have hk5 := hk4.below hb5 hk4.lt; have hge := Nat.le_refl Vl.heap.size; have hlt := hk4.lt)))
            | (go_at_call 64; refine (rlof 0 1 _ (by decide) (by decide) (by decide)).mono ?_; rintro e x4 ⟨r1, rfl, hq1, hb4⟩; have hB4 : Below Vl.heap.size Vl x4 := (by first | exact ⟨hb4.os, hb4.tape, hb4.output, hb4.size, hb4.block⟩ | exact (below_new hB00 _).trans (hb4.mono (below_new hB00 _).size)); obtain ⟨sh, Ah, nh, ch, yh, Bh, mh, eh, rfl⟩ := hq1.form; (try (have hk4 : Blk x4 Vl.heap.size 43 #[.int .i64 0, .slice none 0 0, .int .i64 0, .slice none 0 0] := blk_run4 (b := Vl.drew) hb4))))
        all_goals
          go_wp2_with fail
          go_meet
          first
            | exact ⟨_, _, _, _, _, _, _, _, _, rfl, rfl, Bf.put hk6 hq6.fv.a hq6.fv.b hnb.1 hnb.2, below_st4 hB6 hge _ _ _ _⟩
            | exact ⟨_, _, _, _, _, _, _, _, _, rfl, rfl, fbox_new hq6, below_new hB6 _⟩
      obtain ⟨gd, sd, Ad, nd, cd, yd, Bd, md, ed, rfl, rfl, kd, hb9⟩ := hcut
      clear E0 hB00 HML hTs
      have htdx : True := trivial
      clear htdx
      have htdy : True := trivial
      clear htdy
      have hT := hT.trans (hb9.mono hT.size)
      have ka := ka.below hb9
      have kb := kb.below hb9
      have kc := kc.below hb9
      have ks := ks.below hb9
      have kx := kx.below hb9
      have ky := ky.below hb9
      have km := km.below hb9
      have HRd := HRa
      have e0 : ∀ W' : World, Below wc.heap.size wc W' → W'.cell? ⟨w.heap.size, 0, none⟩ = some (.int .i64 s1) ∧ W'.cell? ⟨w.heap.size, 1, none⟩ = some (.slice A1 n1 d1) ∧ W'.cell? ⟨w.heap.size, 2, none⟩ = some (.int .i64 t1) ∧ W'.cell? ⟨w.heap.size, 3, none⟩ = some (.slice B1 m1 e1) ∧ Below wc.heap.size wc W' := fun W' hW =>
        ⟨(ka.below hW).c0, (ka.below hW).c1, (ka.below hW).c2, (ka.below hW).c3, hW⟩
      have E0 := Lib.hid e0; clear e0
      have hB00 : Below wc.heap.size wc wc.drew := (Below.refl _ _).drew
      have hml := fun (w' : World) (hb : Below wc.heap.size wc w') s1 A1 n1 d1 s2 A2 n2 d2 (h : FV w' w'.heap.size s1 A1 n1 d1 s2 A2 n2 d2 (Rat.divInt 1 1).num (Rat.divInt 1 1).den) => rmul w' (ka.below hb).fv h HRa.out (rb_lit 1 1 (by decide) (ab_small (by decide)) (ab_small (by decide))) (by decide)
      rw [show x * Rat.divInt 1 1 = x by rw [show Rat.divInt 1 1 = 1 by decide]; exact Rat.mul_one x] at hml
      unfold RetF at hml
      have HML := Lib.hid hml; clear hml
      have hTs := hT.size
      go_upto_region 22 with fail
      go_cut [23, 17] from 242 to 250 (fun p e wx => ∃ (g : Nat) (s : Int) (A : Option Addr) (n c : Nat) (s' : Int) (A' : Option Addr) (n' c' : Nat), p = .pointer (some ⟨g, 0, none⟩) ∧ e = .bool true ∧ Bf 43 wx g s A n c s' A' n' c' x.num x.den ∧ Below wc.heap.size wc wx)
      case first =>
        go_region_held3 (fun W' => W'.cell? ⟨w.heap.size, 0, none⟩ = some (.int .i64 s1) ∧ W'.cell? ⟨w.heap.size, 1, none⟩ = some (.slice A1 n1 d1) ∧ W'.cell? ⟨w.heap.size, 2, none⟩ = some (.int .i64 t1) ∧ W'.cell? ⟨w.heap.size, 3, none⟩ = some (.slice B1 m1 e1) ∧ Below wc.heap.size wc W')
          (first | exact E0.out _ (below_st4 hB6 hge _ _ _ _) | exact E0.out _ (below_new hB6 _) | exact E0.out _ (below_new hB5 _) | exact E0.out _ (below_new hB4 _) | exact E0.out _ (below_new hB00 _) | exact E0.out _ (by assumption) | exact E0.out _ ⟨rfl, rfl, rfl, Nat.le_refl _, fun _ _ => rfl⟩)
          (first
            | (go_at_call 63; have _h := hB5; (first | refine (rlright _ _ _ _ _ _ _ _ _ _ hrh.fv (HRa.out.mono (by decide) (by decide))).mono ?_ | refine (rlright _ _ _ _ _ _ _ _ _ _ (hrh.below ((Below.refl _ _).alloc (Nat.le_refl _) _)).fv (HRa.out.mono (by decide) (by decide))).mono ?_); rintro e x6 ⟨rfl, hb6⟩; have hB6 : Below wc.heap.size wc x6 := (by first | exact hB5.trans (hb6.mono hB5.size) | exact (below_new hB5 _).trans (hb6.mono (below_new hB5 _).size)); have hq6 := (by first | exact hrh.below hb6 | exact (hrh.below ((Below.refl _ _).alloc (Nat.le_refl _) _)).below hb6); (try (have hk6 := blk_run4 (b := x5) hb6; have hge := hB5.size; have hnb : Nb Ah nh x5.heap.size ∧ Nb Bh mh x5.heap.size := ⟨Nb.low hrh.fv.a (Nat.le_refl _), Nb.low hrh.fv.b (Nat.le_refl _)⟩; have z0 := hk6.cell 0; have z1 := hk6.cell 1; have z2 := hk6.cell 2; have z3 := hk6.cell 3; have y0 := hk6.frozen 0; have y1 := hk6.frozen 1; have y2 := hk6.frozen 2; have y3 := hk6.frozen 3)); (try (have hk6 := hk5.below hb6 hk5.lt; have hnb := FO.nb hrh hlt; have z0 := hk6.cell 0; have z1 := hk6.cell 1; have z2 := hk6.cell 2; have z3 := hk6.cell 3; have y0 := hk6.frozen 0; have y1 := hk6.frozen 1; have y2 := hk6.frozen 2; have y3 := hk6.frozen 3)))
            | (go_at_call 44; have _h := hB4; (first | refine (HML.out _ hB4 _ _ _ _ _ _ _ _ hq1.fv).mono ?_ | refine (HML.out _ (below_new hB4 _) _ _ _ _ _ _ _ _ (hq1.below ((Below.refl _ _).alloc (Nat.le_refl _) _)).fv).mono ?_); rintro e x5 ⟨rh, rfl, hrh, hb5⟩; have hB5 : Below wc.heap.size wc x5 := (by first | exact hB4.trans (hb5.mono hB4.size) | exact (below_new hB4 _).trans (hb5.mono (below_new hB4 _).size)); obtain ⟨sh, Ah, nh, ch, yh, Bh, mh, eh, rfl⟩ := hrh.form; (try (have hk5 := blk_run4 (b := x4) hb5; have hge := hB4.size; have hlt : x4.heap.size < (x4.alloc (.cells #[.int .i64 0, .slice none 0 0, .int .i64 0, .slice none 0 0] 43)).heap.size := (by simp))); (try (have hk5 := hk4.below hb5 hk4.lt; have hge := Nat.le_refl wc.heap.size; have hlt := hk4.lt)))
            | (go_at_call 64; refine (rlof 1 1 _ (by decide) (by decide) (by decide)).mono ?_; rintro e x4 ⟨r1, rfl, hq1, hb4⟩; have hB4 : Below wc.heap.size wc x4 := (by first | exact ⟨hb4.os, hb4.tape, hb4.output, hb4.size, hb4.block⟩ | exact (below_new hB00 _).trans (hb4.mono (below_new hB00 _).size)); obtain ⟨sh, Ah, nh, ch, yh, Bh, mh, eh, rfl⟩ := hq1.form; (try (have hk4 : Blk x4 wc.heap.size 43 #[.int .i64 0, .slice none 0 0, .int .i64 0, .slice none 0 0] := blk_run4 (b := wc.drew) hb4))))
        all_goals
          go_wp2_with fail
          go_meet
          first
            | exact ⟨_, _, _, _, _, _, _, _, _, rfl, rfl, Bf.put hk6 hq6.fv.a hq6.fv.b hnb.1 hnb.2, below_st4 hB6 hge _ _ _ _⟩
            | exact ⟨_, _, _, _, _, _, _, _, _, rfl, rfl, fbox_new hq6, below_new hB6 _⟩
      obtain ⟨gh, sh, Ah, nh, ch, yh, Bh, mh, eh, rfl, rfl, kh, hb9⟩ := hcut
      clear E0 hB00 HML hTs
      have hthx : True := trivial
      clear hthx
      have hthy : True := trivial
      clear hthy
      have hT := hT.trans (hb9.mono hT.size)
      have ka := ka.below hb9
      have kb := kb.below hb9
      have kc := kc.below hb9
      have ks := ks.below hb9
      have kx := kx.below hb9
      have ky := ky.below hb9
      have km := km.below hb9
      have kd := kd.below hb9
      have HRh := HRa
      have zx0 := kx.c0
      have zx1 := kx.c1
      have zx2 := kx.c2
      have zx3 := kx.c3
      have zy0 := ky.c0
      have zy1 := ky.c1
      have zy2 := ky.c2
      have zy3 := ky.c3
      go_wp2_with fail
      clear zx0 zx1 zx2 zx3 zy0 zy1 zy2 zy3
      (with_reducible refine (rsame _ kx.fv ky.fv true (decide_eq_true (show ((x + y) * z) = ((x * z) + (y * z)) from by rw [Rat.add_mul]))).mono ?_)
      rintro e u31 ⟨rfl, hb9⟩
      have hT := hT.trans (hb9.mono hT.size)
      have ka := ka.below hb9
      have kb := kb.below hb9
      have kc := kc.below hb9
      have ks := ks.below hb9
      have kx := kx.below hb9
      have ky := ky.below hb9
      have km := km.below hb9
      have kd := kd.below hb9
      have kh := kh.below hb9
      have zd0 := kd.c0
      have zd1 := kd.c1
      have zd2 := kd.c2
      have zd3 := kd.c3
      have za0 := ka.c0
      have za1 := ka.c1
      have za2 := ka.c2
      have za3 := ka.c3
      go_wp2_with fail
      clear zd0 zd1 zd2 zd3 za0 za1 za2 za3
      (with_reducible refine (rsame _ kd.fv ka.fv true (decide_eq_true (show x = x from rfl))).mono ?_)
      rintro e u32 ⟨rfl, hb9⟩
      have hT := hT.trans (hb9.mono hT.size)
      have ka := ka.below hb9
      have kb := kb.below hb9
      have kc := kc.below hb9
      have ks := ks.below hb9
      have kx := kx.below hb9
      have ky := ky.below hb9
      have km := km.below hb9
      have kd := kd.below hb9
      have kh := kh.below hb9
      have zh0 := kh.c0
      have zh1 := kh.c1
      have zh2 := kh.c2
      have zh3 := kh.c3
      have za0 := ka.c0
      have za1 := ka.c1
      have za2 := ka.c2
      have za3 := ka.c3
      go_wp2_with fail
      clear zh0 zh1 zh2 zh3 za0 za1 za2 za3
      (with_reducible refine (rsame _ kh.fv ka.fv true (decide_eq_true (show x = x from rfl))).mono ?_)
      rintro e u33 ⟨rfl, hb9⟩
      have hT := hT.trans (hb9.mono hT.size)
      have ka := ka.below hb9
      have kb := kb.below hb9
      have kc := kc.below hb9
      have ks := ks.below hb9
      have kx := kx.below hb9
      have ky := ky.below hb9
      have km := km.below hb9
      have kd := kd.below hb9
      have kh := kh.below hb9
      clear kd kh
      as_aux_lemma =>
        have zs0 := ks.c0
        have zs1 := ks.c1
        have zs2 := ks.c2
        have zs3 := ks.c3
        have zb0 := kb.c0
        have zb1 := kb.c1
        have zb2 := kb.c2
        have zb3 := kb.c3
        go_wp2_with fail
        clear zs0 zs1 zs2 zs3 zb0 zb1 zb2 zb3
        have ltx := kx.blk.lt
        have lty := ky.blk.lt
        (with_reducible refine (rsub _ ks.fv kb.fv HRs.out HRb.out (by decide)).mono ?_)
        rintro e u34 ⟨ro, rfl, hro, hb9⟩
        have hT := hT.trans (hb9.mono hT.size)
        have ka := ka.below hb9
        have kb := kb.below hb9
        have kc := kc.below hb9
        have ks := ks.below hb9
        have kx := kx.below hb9
        have ky := ky.below hb9
        have km := km.below hb9
        rw [show (x + y) - y = x from rat_add_sub x y] at hro
        obtain ⟨so, Ao, no, co, yo, Bo, mo, eo, rfl⟩ := hro.form
        have nbo_x := FO.nb hro ltx
        have nbo_y := FO.nb hro lty
        have hbo : Rb (x) 20 18 := by have h := Rb.sub (e := 20) (f := 18) HRs.out HRb.out (by decide) (by decide) rfl; rw [show (x + y) - y = x from rat_add_sub x y] at h; exact h
        have HRo := Lib.hid hbo; clear hbo
        go_wp2_with fail
        (with_reducible refine (rlright _ _ _ _ _ _ _ _ _ _ hro.fv (HRo.out.mono (by decide) (by decide))).mono ?_)
        rintro e u35 ⟨rfl, hb9⟩
        have hT := hT.trans (hb9.mono hT.size)
        have ka := ka.below hb9
        have kb := kb.below hb9
        have kc := kc.below hb9
        have ks := ks.below hb9
        have kx := kx.below hb9
        have ky := ky.below hb9
        have km := km.below hb9
        have hro := hro.below hb9
        have t0 := kx.c0
        have f0 := kx.blk.frozen 0
        have t1 := kx.c1
        have f1 := kx.blk.frozen 1
        have t2 := kx.c2
        have f2 := kx.blk.frozen 2
        have t3 := kx.c3
        have f3 := kx.blk.frozen 3
        have kaz := ka.set4 nea_x nba_x.1 nba_x.2 (.int .i64 so) (.slice Ao no co) (.int .i64 yo) (.slice Bo mo eo)
        have kbz := kb.set4 neb_x nbb_x.1 nbb_x.2 (.int .i64 so) (.slice Ao no co) (.int .i64 yo) (.slice Bo mo eo)
        have kcz := kc.set4 nec_x nbc_x.1 nbc_x.2 (.int .i64 so) (.slice Ao no co) (.int .i64 yo) (.slice Bo mo eo)
        have ksz := ks.set4 nes_x nbs_x.1 nbs_x.2 (.int .i64 so) (.slice Ao no co) (.int .i64 yo) (.slice Bo mo eo)
        have kyz := ky.set4 ney_x nby_x.1 nby_x.2 (.int .i64 so) (.slice Ao no co) (.int .i64 yo) (.slice Bo mo eo)
        have kmz := km.set4 nem_x nbm_x.1 nbm_x.2 (.int .i64 so) (.slice Ao no co) (.int .i64 yo) (.slice Bo mo eo)
        have kxz := Bf.put kx.blk hro.fv.a hro.fv.b nbo_x.1 nbo_x.2
        have zm0 := kmz.c0
        have zm1 := kmz.c1
        have zm2 := kmz.c2
        have zm3 := kmz.c3
        have zb0 := kbz.c0
        have zb1 := kbz.c1
        have zb2 := kbz.c2
        have zb3 := kbz.c3
        go_wp2_with fail
        clear zm0 zm1 zm2 zm3 zb0 zb1 zb2 zb3
        clear t0 t1 t2 t3 f0 f1 f2 f3
        have hT := below_st4 hT gex (.int .i64 so) (.slice Ao no co) (.int .i64 yo) (.slice Bo mo eo)
        generalize (((u35.setCell ⟨u8.heap.size, 0, none⟩ (.int .i64 so)).setCell ⟨u8.heap.size, 1, none⟩ (.slice Ao no co)).setCell ⟨u8.heap.size, 2, none⟩ (.int .i64 yo)).setCell ⟨u8.heap.size, 3, none⟩ (.slice Bo mo eo) = Vo at *
        have ka := kaz; clear kaz
        have kb := kbz; clear kbz
        have kc := kcz; clear kcz
        have ks := ksz; clear ksz
        have kx := kxz; clear kxz
        have ky := kyz; clear kyz
        have km := kmz; clear kmz
        have HRx := HRo
        have nbx_y := nbo_y
        by_cases hy0 : y = 0
        · have ltx := kx.blk.lt
          have lty := ky.blk.lt
          have hs2 : s2 = 0 := by rw [HSb.out, hy0]; rfl
          (with_reducible refine (rdiv0 _ km.fv kb.fv HRm.out HRb.out hy0 (by decide)).mono ?_)
          rintro e u36 ⟨ru, rfl, hru, hb9⟩
          have hT := hT.trans (hb9.mono hT.size)
          have ka := ka.below hb9
          have kb := kb.below hb9
          have kc := kc.below hb9
          have ks := ks.below hb9
          have kx := kx.below hb9
          have ky := ky.below hb9
          have km := km.below hb9
          obtain ⟨su, Au, nu, cu, yu, Bu, mu, eu, rfl⟩ := hru.form
          have nbu_x := FO.nb hru ltx
          have nbu_y := FO.nb hru lty
          have HS0 := Lib.hid hs2; clear hs2 hy0
          have ku0 := hru.fv
          have HRu := HRa
          clear km ks kc
          have t0 := ky.c0
          have f0 := ky.blk.frozen 0
          have t1 := ky.c1
          have f1 := ky.blk.frozen 1
          have t2 := ky.c2
          have f2 := ky.blk.frozen 2
          have t3 := ky.c3
          have f3 := ky.blk.frozen 3
          have kaz := ka.set4 nea_y nba_y.1 nba_y.2 (.int .i64 su) (.slice Au nu cu) (.int .i64 yu) (.slice Bu mu eu)
          have kbz := kb.set4 neb_y nbb_y.1 nbb_y.2 (.int .i64 su) (.slice Au nu cu) (.int .i64 yu) (.slice Bu mu eu)
          have kxz := kx.set4 nex_y nbx_y.1 nbx_y.2 (.int .i64 su) (.slice Au nu cu) (.int .i64 yu) (.slice Bu mu eu)
          have kyz := Bf.put ky.blk hru.fv.a hru.fv.b nbu_y.1 nbu_y.2
          have zb0 := kbz.c0
          rw [HS0.out] at zb0
          have zx0 := kxz.c0
          have zx1 := kxz.c1
          have zx2 := kxz.c2
          have zx3 := kxz.c3
          have za0 := kaz.c0
          have za1 := kaz.c1
          have za2 := kaz.c2
          have za3 := kaz.c3
          go_wp2_with fail
          clear zb0 zx0 zx1 zx2 zx3 za0 za1 za2 za3
          clear t0 t1 t2 t3 f0 f1 f2 f3
          have hT := below_st4 hT gey (.int .i64 su) (.slice Au nu cu) (.int .i64 yu) (.slice Bu mu eu)
          generalize (((u36.setCell ⟨u10.heap.size, 0, none⟩ (.int .i64 su)).setCell ⟨u10.heap.size, 1, none⟩ (.slice Au nu cu)).setCell ⟨u10.heap.size, 2, none⟩ (.int .i64 yu)).setCell ⟨u10.heap.size, 3, none⟩ (.slice Bu mu eu) = Vu at *
          have ka := kaz; clear kaz
          have kb := kbz; clear kbz
          have kx := kxz; clear kxz
          have ky := kyz; clear kyz
          have HRy := HRu
          have nby_x := nbu_x
          (with_reducible refine (rsame _ kx.fv ka.fv true (decide_eq_true rfl)).mono ?_)
          rintro e u37 ⟨rfl, hb9⟩
          have hT := hT.trans (hb9.mono hT.size)
          have ka := ka.below hb9
          have kb := kb.below hb9
          have kx := kx.below hb9
          have ky := ky.below hb9
          go_wp2_with fail
          go_ret
          exact ⟨rfl, hT⟩
        · have ltx := kx.blk.lt
          have lty := ky.blk.lt
          have hs2 : (s2 == 0) = false := by
            have h1 : y.num ≠ 0 := num_ne hy0
            rw [HSb.out]; unfold sgn; split <;> (try split) <;> simp <;> omega
          (with_reducible refine (rdiv _ km.fv kb.fv HRm.out HRb.out hy0 (by decide)).mono ?_)
          rintro e u36 ⟨ru, rfl, hru, hb9⟩
          have hT := hT.trans (hb9.mono hT.size)
          have ka := ka.below hb9
          have kb := kb.below hb9
          have kc := kc.below hb9
          have ks := ks.below hb9
          have kx := kx.below hb9
          have ky := ky.below hb9
          have km := km.below hb9
          rw [show (x * y) / y = x from by rw [Rat.div_def, Rat.mul_assoc, Rat.mul_inv_cancel y hy0, Rat.mul_one]] at hru
          obtain ⟨su, Au, nu, cu, yu, Bu, mu, eu, rfl⟩ := hru.form
          have nbu_x := FO.nb hru ltx
          have nbu_y := FO.nb hru lty
          clear hy0
          have HRu := HRa
          clear km ks kc
          have t0 := ky.c0
          have f0 := ky.blk.frozen 0
          have t1 := ky.c1
          have f1 := ky.blk.frozen 1
          have t2 := ky.c2
          have f2 := ky.blk.frozen 2
          have t3 := ky.c3
          have f3 := ky.blk.frozen 3
          have kaz := ka.set4 nea_y nba_y.1 nba_y.2 (.int .i64 su) (.slice Au nu cu) (.int .i64 yu) (.slice Bu mu eu)
          have kbz := kb.set4 neb_y nbb_y.1 nbb_y.2 (.int .i64 su) (.slice Au nu cu) (.int .i64 yu) (.slice Bu mu eu)
          have kxz := kx.set4 nex_y nbx_y.1 nbx_y.2 (.int .i64 su) (.slice Au nu cu) (.int .i64 yu) (.slice Bu mu eu)
          have kyz := Bf.put ky.blk hru.fv.a hru.fv.b nbu_y.1 nbu_y.2
          have zb0 := kbz.c0
          have zx0 := kxz.c0
          have zx1 := kxz.c1
          have zx2 := kxz.c2
          have zx3 := kxz.c3
          have za0 := kaz.c0
          have za1 := kaz.c1
          have za2 := kaz.c2
          have za3 := kaz.c3
          go_wp2_with fail
          clear zb0 zx0 zx1 zx2 zx3 za0 za1 za2 za3
          clear t0 t1 t2 t3 f0 f1 f2 f3
          have hT := below_st4 hT gey (.int .i64 su) (.slice Au nu cu) (.int .i64 yu) (.slice Bu mu eu)
          generalize (((u36.setCell ⟨u10.heap.size, 0, none⟩ (.int .i64 su)).setCell ⟨u10.heap.size, 1, none⟩ (.slice Au nu cu)).setCell ⟨u10.heap.size, 2, none⟩ (.int .i64 yu)).setCell ⟨u10.heap.size, 3, none⟩ (.slice Bu mu eu) = Vu at *
          have ka := kaz; clear kaz
          have kb := kbz; clear kbz
          have kx := kxz; clear kxz
          have ky := kyz; clear kyz
          have HRy := HRu
          have nby_x := nbu_x
          (with_reducible refine (rsame _ kx.fv ka.fv true (decide_eq_true rfl)).mono ?_)
          rintro e u37 ⟨rfl, hb9⟩
          have hT := hT.trans (hb9.mono hT.size)
          have ka := ka.below hb9
          have kb := kb.below hb9
          have kx := kx.below hb9
          have ky := ky.below hb9
          have zy0 := ky.c0
          have zy1 := ky.c1
          have zy2 := ky.c2
          have zy3 := ky.c3
          have za0 := ka.c0
          have za1 := ka.c1
          have za2 := ka.c2
          have za3 := ka.c3
          go_wp2_with fail
          clear zy0 zy1 zy2 zy3 za0 za1 za2 za3
          (with_reducible refine (rsame _ ky.fv ka.fv true (decide_eq_true rfl)).mono ?_)
          rintro e u38 ⟨rfl, hb9⟩
          have hT := hT.trans (hb9.mono hT.size)
          have ka := ka.below hb9
          have kb := kb.below hb9
          have kx := kx.below hb9
          have ky := ky.below hb9
          go_wp2_with fail
          go_ret
          exact ⟨rfl, hT⟩

end Go.Proofs.YtbhdkgieahnojaaGreatDoor
