/- Walks: the law on sums and products. Printed by a program. -/
import Derived.Test.YtofndidngjglmaaDoorZq
namespace Go.Proofs.YtofndidngjglmaaDoor
open Go.RowKit

set_option maxRecDepth 100000 in
set_option maxHeartbeats 8000000 in
theorem ring_any (s1 s2 s3 : Int) (l1 l2 l3 : List Int) (A1 A2 A3 : Option Addr) (n1 c1 n2 c2 n3 c3 : Nat) (w : World) (ht : TB w) (h1 : Ar w s1 l1 A1 n1 c1) (h2 : Ar w s2 l2 A2 n2 c2) (h3 : Ar w s3 l3 A3 n3 c3) :
    Calls Tryd.prog 3 #[.agg #[.int .i64 s1, .slice A1 n1 c1], .agg #[.int .i64 s2, .slice A2 n2 c2], .agg #[.int .i64 s3, .slice A3 n3 c3]] w fun e w' => e = .returned (.bool true) ∧ Below w.heap.size w w' := by
  have HT := Lib.hid ht; clear ht
  go_enter Tryd.func3, Tryd.ntmps3
  go_wp2_with fail
  obtain ⟨W0, hW, hbx, q1, q2, q3⟩ := abox3 h1 h2 h3
  rw [← hW]
  clear hW h1 h2 h3
  have hT := hbx
  (with_reducible refine (small_any _ (HT.out.below hT)).mono ?_)
  rintro e v0 ⟨rfl, hb⟩
  have hT := hT.trans (hb.mono hT.size)
  have q1 := q1.below hb
  have q2 := q2.below hb
  have q3 := q3.below hb
  have a0 := q1.c0
  have a1 := q1.c1
  go_wp2_with fail
  clear a0 a1
  by_cases hcf1 : n1 ≤ 19
  rotate_left
  · refine (q1.ar.few 19 false (by simp; omega)).mono ?_
    rintro e v ⟨rfl, hb⟩
    go_wp2_with fail
    go_ret
    exact ⟨rfl, hT.trans (hb.mono hT.size)⟩
  refine (q1.ar.few 19 true (by simp; omega)).mono ?_
  rintro e vf1 ⟨rfl, hb⟩
  have hT := hT.trans (hb.mono hT.size)
  have q1 := q1.below hb
  have q2 := q2.below hb
  have q3 := q3.below hb
  have HCf1 := Lib.hid hcf1; clear hcf1
  have a0 := q2.c0
  have a1 := q2.c1
  go_wp2_with fail
  clear a0 a1
  by_cases hcf2 : n2 ≤ 19
  rotate_left
  · refine (q2.ar.few 19 false (by simp; omega)).mono ?_
    rintro e v ⟨rfl, hb⟩
    go_wp2_with fail
    go_ret
    exact ⟨rfl, hT.trans (hb.mono hT.size)⟩
  refine (q2.ar.few 19 true (by simp; omega)).mono ?_
  rintro e vf2 ⟨rfl, hb⟩
  have hT := hT.trans (hb.mono hT.size)
  have q1 := q1.below hb
  have q2 := q2.below hb
  have q3 := q3.below hb
  have HCf2 := Lib.hid hcf2; clear hcf2
  have a0 := q3.c0
  have a1 := q3.c1
  go_wp2_with fail
  clear a0 a1
  by_cases hcf3 : n3 ≤ 19
  rotate_left
  · refine (q3.ar.few 19 false (by simp; omega)).mono ?_
    rintro e v ⟨rfl, hb⟩
    go_wp2_with fail
    go_ret
    exact ⟨rfl, hT.trans (hb.mono hT.size)⟩
  refine (q3.ar.few 19 true (by simp; omega)).mono ?_
  rintro e vf3 ⟨rfl, hb⟩
  have hT := hT.trans (hb.mono hT.size)
  have q1 := q1.below hb
  have q2 := q2.below hb
  have q3 := q3.below hb
  have HCf3 := Lib.hid hcf3; clear hcf3
  have a0 := q1.c0
  have a1 := q1.c1
  go_wp2_with fail
  clear a0 a1
  by_cases hcr1 : RightP s1 l1
  rotate_left
  · refine (q1.ar.right false (by simp [hcr1])).mono ?_
    rintro e v ⟨rfl, hb⟩
    go_wp2_with fail
    go_ret
    exact ⟨rfl, hT.trans (hb.mono hT.size)⟩
  refine (q1.ar.right true (by simp [hcr1])).mono ?_
  rintro e vr1 ⟨rfl, hb⟩
  have hT := hT.trans (hb.mono hT.size)
  have q1 := q1.below hb
  have q2 := q2.below hb
  have q3 := q3.below hb
  have HCr1 := Lib.hid hcr1; clear hcr1
  have a0 := q2.c0
  have a1 := q2.c1
  go_wp2_with fail
  clear a0 a1
  by_cases hcr2 : RightP s2 l2
  rotate_left
  · refine (q2.ar.right false (by simp [hcr2])).mono ?_
    rintro e v ⟨rfl, hb⟩
    go_wp2_with fail
    go_ret
    exact ⟨rfl, hT.trans (hb.mono hT.size)⟩
  refine (q2.ar.right true (by simp [hcr2])).mono ?_
  rintro e vr2 ⟨rfl, hb⟩
  have hT := hT.trans (hb.mono hT.size)
  have q1 := q1.below hb
  have q2 := q2.below hb
  have q3 := q3.below hb
  have HCr2 := Lib.hid hcr2; clear hcr2
  have a0 := q3.c0
  have a1 := q3.c1
  go_wp2_with fail
  clear a0 a1
  by_cases hcr3 : RightP s3 l3
  rotate_left
  · refine (q3.ar.right false (by simp [hcr3])).mono ?_
    rintro e v ⟨rfl, hb⟩
    go_wp2_with fail
    go_ret
    exact ⟨rfl, hT.trans (hb.mono hT.size)⟩
  refine (q3.ar.right true (by simp [hcr3])).mono ?_
  rintro e vr3 ⟨rfl, hb⟩
  have hT := hT.trans (hb.mono hT.size)
  have q1 := q1.below hb
  have q2 := q2.below hb
  have q3 := q3.below hb
  have HCr3 := Lib.hid hcr3; clear hcr3
  obtain ⟨x, ka, hsa, hka⟩ := q1.bx HCr1.out
  have hka := hka 19 HCf1.out
  have HKa := Lib.hid hka; clear hka
  clear q1 HCr1 HCf1
  have HSa := Lib.hid hsa; clear hsa
  obtain ⟨y, kb, hsb, hkb⟩ := q2.bx HCr2.out
  have hkb := hkb 19 HCf2.out
  have HKb := Lib.hid hkb; clear hkb
  clear q2 HCr2 HCf2
  have HSb := Lib.hid hsb; clear hsb
  obtain ⟨z, kc, hsc, hkc⟩ := q3.bx HCr3.out
  have hkc := hkc 19 HCf3.out
  have HKc := Lib.hid hkc; clear hkc
  clear q3 HCr3 HCf3
  have HSc := Lib.hid hsc; clear hsc
  have ka0 := ka.c0
  have ka1 := ka.c1
  have kb0 := kb.c0
  have kb1 := kb.c1
  go_wp2_with fail
  clear ka0 ka1 kb0 kb1
  have hkd : ab (x + y) < pw 20 := ab_add_lt HKa.out HKb.out (by decide) (by decide)
  have HKd := Lib.hid hkd; clear hkd
  have hfd := fits (up HKd.out (by decide))
  have HFd := Lib.hid hfd; clear hfd
  (with_reducible refine (add_any _ _ _ _ _ ka.bv kb.bv (up HKa.out (by decide)) (up HKb.out (by decide))).mono ?_)
  rintro e u1 ⟨rd, rfl, hrd, hb9⟩
  have hT := hT.trans (hb9.mono hT.size)
  have ka := ka.below hb9
  have kb := kb.below hb9
  have kc := kc.below hb9
  rw [HFd.out.1]
  rw [HFd.out.2] at hrd
  obtain ⟨sd, Ad, nd, cd, rfl⟩ := hrd.form
  have kbz := kb.below ((Below.refl _ u1).alloc (Nat.le_refl _) (.cells #[.int .i64 sd, .slice Ad nd cd] 24))
  have kbz0 := kbz.c0
  have kbz1 := kbz.c1
  have kaz := ka.below ((Below.refl _ u1).alloc (Nat.le_refl _) (.cells #[.int .i64 sd, .slice Ad nd cd] 24))
  have kaz0 := kaz.c0
  have kaz1 := kaz.c1
  go_wp2_with fail
  clear kbz0 kbz1
  clear kbz
  clear kaz0 kaz1
  clear kaz
  obtain ⟨Wd, hW, hbx, kd⟩ := box1 hrd
  rw [← hW]
  clear hW
  have hT := hT.trans (hbx.mono hT.size)
  have ka := ka.below hbx
  have kb := kb.below hbx
  have kc := kc.below hbx
  have hke : ab (y + x) < pw 20 := ab_add_lt HKb.out HKa.out (by decide) (by decide)
  have HKe := Lib.hid hke; clear hke
  have hfe := fits (up HKe.out (by decide))
  have HFe := Lib.hid hfe; clear hfe
  (with_reducible refine (add_any _ _ _ _ _ kb.bv ka.bv (up HKb.out (by decide)) (up HKa.out (by decide))).mono ?_)
  rintro e u2 ⟨re, rfl, hre, hb9⟩
  have hT := hT.trans (hb9.mono hT.size)
  have ka := ka.below hb9
  have kb := kb.below hb9
  have kc := kc.below hb9
  have kd := kd.below hb9
  rw [HFe.out.1]
  rw [HFe.out.2] at hre
  obtain ⟨se, Ae, ne, ce, rfl⟩ := hre.form
  have kbz := kb.below ((Below.refl _ u2).alloc (Nat.le_refl _) (.cells #[.int .i64 se, .slice Ae ne ce] 24))
  have kbz0 := kbz.c0
  have kbz1 := kbz.c1
  have kcz := kc.below ((Below.refl _ u2).alloc (Nat.le_refl _) (.cells #[.int .i64 se, .slice Ae ne ce] 24))
  have kcz0 := kcz.c0
  have kcz1 := kcz.c1
  go_wp2_with fail
  clear kbz0 kbz1
  clear kbz
  clear kcz0 kcz1
  clear kcz
  obtain ⟨We, hW, hbx, ke⟩ := box1 hre
  rw [← hW]
  clear hW
  have hT := hT.trans (hbx.mono hT.size)
  have ka := ka.below hbx
  have kb := kb.below hbx
  have kc := kc.below hbx
  have kd := kd.below hbx
  have hkf : ab (y + z) < pw 20 := ab_add_lt HKb.out HKc.out (by decide) (by decide)
  have HKf := Lib.hid hkf; clear hkf
  have hff := fits (up HKf.out (by decide))
  have HFf := Lib.hid hff; clear hff
  (with_reducible refine (add_any _ _ _ _ _ kb.bv kc.bv (up HKb.out (by decide)) (up HKc.out (by decide))).mono ?_)
  rintro e u3 ⟨rf, rfl, hrf, hb9⟩
  have hT := hT.trans (hb9.mono hT.size)
  have ka := ka.below hb9
  have kb := kb.below hb9
  have kc := kc.below hb9
  have kd := kd.below hb9
  have ke := ke.below hb9
  rw [HFf.out.1]
  rw [HFf.out.2] at hrf
  obtain ⟨sf, Af, nf, cf, rfl⟩ := hrf.form
  have kdz := kd.below ((Below.refl _ u3).alloc (Nat.le_refl _) (.cells #[.int .i64 sf, .slice Af nf cf] 24))
  have kdz0 := kdz.c0
  have kdz1 := kdz.c1
  have kcz := kc.below ((Below.refl _ u3).alloc (Nat.le_refl _) (.cells #[.int .i64 sf, .slice Af nf cf] 24))
  have kcz0 := kcz.c0
  have kcz1 := kcz.c1
  go_wp2_with fail
  clear kdz0 kdz1
  clear kdz
  clear kcz0 kcz1
  clear kcz
  obtain ⟨Wf, hW, hbx, kf⟩ := box1 hrf
  rw [← hW]
  clear hW
  have hT := hT.trans (hbx.mono hT.size)
  have ka := ka.below hbx
  have kb := kb.below hbx
  have kc := kc.below hbx
  have kd := kd.below hbx
  have ke := ke.below hbx
  have hkg : ab ((x + y) + z) < pw 21 := ab_add_lt HKd.out HKc.out (by decide) (by decide)
  have HKg := Lib.hid hkg; clear hkg
  have hfg := fits (up HKg.out (by decide))
  have HFg := Lib.hid hfg; clear hfg
  (with_reducible refine (add_any _ _ _ _ _ kd.bv kc.bv (up HKd.out (by decide)) (up HKc.out (by decide))).mono ?_)
  rintro e u4 ⟨rg, rfl, hrg, hb9⟩
  have hT := hT.trans (hb9.mono hT.size)
  have ka := ka.below hb9
  have kb := kb.below hb9
  have kc := kc.below hb9
  have kd := kd.below hb9
  have ke := ke.below hb9
  have kf := kf.below hb9
  rw [HFg.out.1]
  rw [HFg.out.2] at hrg
  obtain ⟨sg, Ag, ng, cg, rfl⟩ := hrg.form
  have nba_g := Nb.low ka.bv (Nat.le_refl _)
  have nea_g : w.heap.size ≠ u4.heap.size := by have := ka.blk.lt; omega
  have nbb_g := Nb.low kb.bv (Nat.le_refl _)
  have neb_g : w.heap.size + 1 ≠ u4.heap.size := by have := kb.blk.lt; omega
  have nbc_g := Nb.low kc.bv (Nat.le_refl _)
  have nec_g : w.heap.size + 1 + 1 ≠ u4.heap.size := by have := kc.blk.lt; omega
  have nbd_g := Nb.low kd.bv (Nat.le_refl _)
  have ned_g : u1.heap.size ≠ u4.heap.size := by have := kd.blk.lt; omega
  have nbe_g := Nb.low ke.bv (Nat.le_refl _)
  have nee_g : u2.heap.size ≠ u4.heap.size := by have := ke.blk.lt; omega
  have nbf_g := Nb.low kf.bv (Nat.le_refl _)
  have nef_g : u3.heap.size ≠ u4.heap.size := by have := kf.blk.lt; omega
  have geg := hT.size
  have kaz := ka.below ((Below.refl _ u4).alloc (Nat.le_refl _) (.cells #[.int .i64 sg, .slice Ag ng cg] 24))
  have kaz0 := kaz.c0
  have kaz1 := kaz.c1
  have kfz := kf.below ((Below.refl _ u4).alloc (Nat.le_refl _) (.cells #[.int .i64 sg, .slice Ag ng cg] 24))
  have kfz0 := kfz.c0
  have kfz1 := kfz.c1
  go_wp2_with fail
  clear kaz0 kaz1
  clear kaz
  clear kfz0 kfz1
  clear kfz
  obtain ⟨Wg, hW, hbx, kg⟩ := box1 hrg
  rw [← hW]
  clear hW
  have hT := hT.trans (hbx.mono hT.size)
  have ka := ka.below hbx
  have kb := kb.below hbx
  have kc := kc.below hbx
  have kd := kd.below hbx
  have ke := ke.below hbx
  have kf := kf.below hbx
  have hkh : ab (x + (y + z)) < pw 21 := ab_add_lt HKa.out HKf.out (by decide) (by decide)
  have HKh := Lib.hid hkh; clear hkh
  have hfh := fits (up HKh.out (by decide))
  have HFh := Lib.hid hfh; clear hfh
  have ltg := kg.blk.lt
  (with_reducible refine (add_any _ _ _ _ _ ka.bv kf.bv (up HKa.out (by decide)) (up HKf.out (by decide))).mono ?_)
  rintro e u5 ⟨rh, rfl, hrh, hb9⟩
  have hT := hT.trans (hb9.mono hT.size)
  have ka := ka.below hb9
  have kb := kb.below hb9
  have kc := kc.below hb9
  have kd := kd.below hb9
  have ke := ke.below hb9
  have kf := kf.below hb9
  have kg := kg.below hb9
  rw [HFh.out.1]
  rw [HFh.out.2] at hrh
  obtain ⟨sh, Ah, nh, ch, rfl⟩ := hrh.form
  have nbh_g := Nb.high hrh ltg
  have neh_g : u5.heap.size ≠ u4.heap.size := by have := kg.blk.lt; omega
  have nba_h := Nb.low ka.bv (Nat.le_refl _)
  have nea_h : w.heap.size ≠ u5.heap.size := by have := ka.blk.lt; omega
  have nbb_h := Nb.low kb.bv (Nat.le_refl _)
  have neb_h : w.heap.size + 1 ≠ u5.heap.size := by have := kb.blk.lt; omega
  have nbc_h := Nb.low kc.bv (Nat.le_refl _)
  have nec_h : w.heap.size + 1 + 1 ≠ u5.heap.size := by have := kc.blk.lt; omega
  have nbd_h := Nb.low kd.bv (Nat.le_refl _)
  have ned_h : u1.heap.size ≠ u5.heap.size := by have := kd.blk.lt; omega
  have nbe_h := Nb.low ke.bv (Nat.le_refl _)
  have nee_h : u2.heap.size ≠ u5.heap.size := by have := ke.blk.lt; omega
  have nbf_h := Nb.low kf.bv (Nat.le_refl _)
  have nef_h : u3.heap.size ≠ u5.heap.size := by have := kf.blk.lt; omega
  have nbg_h := Nb.low kg.bv (Nat.le_refl _)
  have neg_h : u4.heap.size ≠ u5.heap.size := by have := kg.blk.lt; omega
  have geh := hT.size
  have kdz := kd.below ((Below.refl _ u5).alloc (Nat.le_refl _) (.cells #[.int .i64 sh, .slice Ah nh ch] 24))
  have kdz0 := kdz.c0
  have kdz1 := kdz.c1
  have kez := ke.below ((Below.refl _ u5).alloc (Nat.le_refl _) (.cells #[.int .i64 sh, .slice Ah nh ch] 24))
  have kez0 := kez.c0
  have kez1 := kez.c1
  go_wp2_with fail
  clear kdz0 kdz1
  clear kdz
  clear kez0 kez1
  clear kez
  obtain ⟨Wh, hW, hbx, kh⟩ := box1 hrh
  rw [← hW]
  clear hW
  have hT := hT.trans (hbx.mono hT.size)
  have ka := ka.below hbx
  have kb := kb.below hbx
  have kc := kc.below hbx
  have kd := kd.below hbx
  have ke := ke.below hbx
  have kf := kf.below hbx
  have kg := kg.below hbx
  (with_reducible refine (refSame_any _ _ _ _ _ kd.bv ke.bv).mono ?_)
  rintro e u6 ⟨rfl, hb9⟩
  have hT := hT.trans (hb9.mono hT.size)
  have ka := ka.below hb9
  have kb := kb.below hb9
  have kc := kc.below hb9
  have kd := kd.below hb9
  have ke := ke.below hb9
  have kf := kf.below hb9
  have kg := kg.below hb9
  have kh := kh.below hb9
  rw [decide_eq_true (show (x + y) = (y + x) from Int.add_comm _ _)]
  have kg0 := kg.c0
  have kg1 := kg.c1
  have kh0 := kh.c0
  have kh1 := kh.c1
  go_wp2_with fail
  clear kg0 kg1 kh0 kh1
  (with_reducible refine (refSame_any _ _ _ _ _ kg.bv kh.bv).mono ?_)
  rintro e u7 ⟨rfl, hb9⟩
  have hT := hT.trans (hb9.mono hT.size)
  have ka := ka.below hb9
  have kb := kb.below hb9
  have kc := kc.below hb9
  have kd := kd.below hb9
  have ke := ke.below hb9
  have kf := kf.below hb9
  have kg := kg.below hb9
  have kh := kh.below hb9
  rw [decide_eq_true (show ((x + y) + z) = (x + (y + z)) from Int.add_assoc _ _ _)]
  clear kd ke
  as_aux_lemma =>
    have ka0 := ka.c0
    have ka1 := ka.c1
    have kb0 := kb.c0
    have kb1 := kb.c1
    go_wp2_with fail
    clear ka0 ka1 kb0 kb1
    have hki : ab (x * y) < pw 38 := ab_mul_lt HKa.out HKb.out rfl
    have HKi := Lib.hid hki; clear hki
    have hfi := fits (up HKi.out (by decide))
    have HFi := Lib.hid hfi; clear hfi
    have ltg := kg.blk.lt
    have lth := kh.blk.lt
    (with_reducible refine (mul_any _ _ _ _ _ ka.bv kb.bv (up HKa.out (by decide)) (up HKb.out (by decide))).mono ?_)
    rintro e u8 ⟨ri, rfl, hri, hb9⟩
    have hT := hT.trans (hb9.mono hT.size)
    have ka := ka.below hb9
    have kb := kb.below hb9
    have kc := kc.below hb9
    have kf := kf.below hb9
    have kg := kg.below hb9
    have kh := kh.below hb9
    rw [HFi.out.1]
    rw [HFi.out.2] at hri
    obtain ⟨si, Ai, ni, ci, rfl⟩ := hri.form
    have nbi_g := Nb.high hri ltg
    have nbi_h := Nb.high hri lth
    have nei_g : u8.heap.size ≠ u4.heap.size := by have := kg.blk.lt; omega
    have nei_h : u8.heap.size ≠ u5.heap.size := by have := kh.blk.lt; omega
    have kbz := kb.below ((Below.refl _ u8).alloc (Nat.le_refl _) (.cells #[.int .i64 si, .slice Ai ni ci] 24))
    have kbz0 := kbz.c0
    have kbz1 := kbz.c1
    have kaz := ka.below ((Below.refl _ u8).alloc (Nat.le_refl _) (.cells #[.int .i64 si, .slice Ai ni ci] 24))
    have kaz0 := kaz.c0
    have kaz1 := kaz.c1
    go_wp2_with fail
    clear kbz0 kbz1
    clear kbz
    clear kaz0 kaz1
    clear kaz
    obtain ⟨Wi, hW, hbx, ki⟩ := box1 hri
    rw [← hW]
    clear hW
    have hT := hT.trans (hbx.mono hT.size)
    have ka := ka.below hbx
    have kb := kb.below hbx
    have kc := kc.below hbx
    have kf := kf.below hbx
    have kg := kg.below hbx
    have kh := kh.below hbx
    have hkj : ab (y * x) < pw 38 := ab_mul_lt HKb.out HKa.out rfl
    have HKj := Lib.hid hkj; clear hkj
    have hfj := fits (up HKj.out (by decide))
    have HFj := Lib.hid hfj; clear hfj
    have ltg := kg.blk.lt
    have lth := kh.blk.lt
    (with_reducible refine (mul_any _ _ _ _ _ kb.bv ka.bv (up HKb.out (by decide)) (up HKa.out (by decide))).mono ?_)
    rintro e u9 ⟨rj, rfl, hrj, hb9⟩
    have hT := hT.trans (hb9.mono hT.size)
    have ka := ka.below hb9
    have kb := kb.below hb9
    have kc := kc.below hb9
    have kf := kf.below hb9
    have kg := kg.below hb9
    have kh := kh.below hb9
    have ki := ki.below hb9
    rw [HFj.out.1]
    rw [HFj.out.2] at hrj
    obtain ⟨sj, Aj, nj, cj, rfl⟩ := hrj.form
    have nbj_g := Nb.high hrj ltg
    have nbj_h := Nb.high hrj lth
    have nej_g : u9.heap.size ≠ u4.heap.size := by have := kg.blk.lt; omega
    have nej_h : u9.heap.size ≠ u5.heap.size := by have := kh.blk.lt; omega
    have kbz := kb.below ((Below.refl _ u9).alloc (Nat.le_refl _) (.cells #[.int .i64 sj, .slice Aj nj cj] 24))
    have kbz0 := kbz.c0
    have kbz1 := kbz.c1
    have kcz := kc.below ((Below.refl _ u9).alloc (Nat.le_refl _) (.cells #[.int .i64 sj, .slice Aj nj cj] 24))
    have kcz0 := kcz.c0
    have kcz1 := kcz.c1
    go_wp2_with fail
    clear kbz0 kbz1
    clear kbz
    clear kcz0 kcz1
    clear kcz
    obtain ⟨Wj, hW, hbx, kj⟩ := box1 hrj
    rw [← hW]
    clear hW
    have hT := hT.trans (hbx.mono hT.size)
    have ka := ka.below hbx
    have kb := kb.below hbx
    have kc := kc.below hbx
    have kf := kf.below hbx
    have kg := kg.below hbx
    have kh := kh.below hbx
    have ki := ki.below hbx
    have hkm : ab (y * z) < pw 38 := ab_mul_lt HKb.out HKc.out rfl
    have HKm := Lib.hid hkm; clear hkm
    have hfm := fits (up HKm.out (by decide))
    have HFm := Lib.hid hfm; clear hfm
    have ltg := kg.blk.lt
    have lth := kh.blk.lt
    (with_reducible refine (mul_any _ _ _ _ _ kb.bv kc.bv (up HKb.out (by decide)) (up HKc.out (by decide))).mono ?_)
    rintro e u10 ⟨rm, rfl, hrm, hb9⟩
    have hT := hT.trans (hb9.mono hT.size)
    have ka := ka.below hb9
    have kb := kb.below hb9
    have kc := kc.below hb9
    have kf := kf.below hb9
    have kg := kg.below hb9
    have kh := kh.below hb9
    have ki := ki.below hb9
    have kj := kj.below hb9
    rw [HFm.out.1]
    rw [HFm.out.2] at hrm
    obtain ⟨sm, Am, nm, cm, rfl⟩ := hrm.form
    have nbm_g := Nb.high hrm ltg
    have nbm_h := Nb.high hrm lth
    have nem_g : u10.heap.size ≠ u4.heap.size := by have := kg.blk.lt; omega
    have nem_h : u10.heap.size ≠ u5.heap.size := by have := kh.blk.lt; omega
    have kiz := ki.below ((Below.refl _ u10).alloc (Nat.le_refl _) (.cells #[.int .i64 sm, .slice Am nm cm] 24))
    have kiz0 := kiz.c0
    have kiz1 := kiz.c1
    have kcz := kc.below ((Below.refl _ u10).alloc (Nat.le_refl _) (.cells #[.int .i64 sm, .slice Am nm cm] 24))
    have kcz0 := kcz.c0
    have kcz1 := kcz.c1
    go_wp2_with fail
    clear kiz0 kiz1
    clear kiz
    clear kcz0 kcz1
    clear kcz
    obtain ⟨Wm, hW, hbx, km⟩ := box1 hrm
    rw [← hW]
    clear hW
    have hT := hT.trans (hbx.mono hT.size)
    have ka := ka.below hbx
    have kb := kb.below hbx
    have kc := kc.below hbx
    have kf := kf.below hbx
    have kg := kg.below hbx
    have kh := kh.below hbx
    have ki := ki.below hbx
    have kj := kj.below hbx
    have hkn : ab ((x * y) * z) < pw 57 := ab_mul_lt HKi.out HKc.out rfl
    have HKn := Lib.hid hkn; clear hkn
    have hfn := fits (up HKn.out (by decide))
    have HFn := Lib.hid hfn; clear hfn
    have ltg := kg.blk.lt
    have lth := kh.blk.lt
    (with_reducible refine (mul_any _ _ _ _ _ ki.bv kc.bv (up HKi.out (by decide)) (up HKc.out (by decide))).mono ?_)
    rintro e u11 ⟨rn, rfl, hrn, hb9⟩
    have hT := hT.trans (hb9.mono hT.size)
    have ka := ka.below hb9
    have kb := kb.below hb9
    have kc := kc.below hb9
    have kf := kf.below hb9
    have kg := kg.below hb9
    have kh := kh.below hb9
    have ki := ki.below hb9
    have kj := kj.below hb9
    have km := km.below hb9
    rw [HFn.out.1]
    rw [HFn.out.2] at hrn
    obtain ⟨sn, An, nn, cn, rfl⟩ := hrn.form
    have nbn_g := Nb.high hrn ltg
    have nbn_h := Nb.high hrn lth
    have t0 := kg.c0
    have t1 := kg.c1
    have f0 := kg.blk.frozen 0
    have f1 := kg.blk.frozen 1
    have kaz := ka.set2 nea_g nba_g (.int .i64 sn) (.slice An nn cn)
    have kbz := kb.set2 neb_g nbb_g (.int .i64 sn) (.slice An nn cn)
    have kcz := kc.set2 nec_g nbc_g (.int .i64 sn) (.slice An nn cn)
    have kfz := kf.set2 nef_g nbf_g (.int .i64 sn) (.slice An nn cn)
    have khz := kh.set2 neh_g nbh_g (.int .i64 sn) (.slice An nn cn)
    have kiz := ki.set2 nei_g nbi_g (.int .i64 sn) (.slice An nn cn)
    have kjz := kj.set2 nej_g nbj_g (.int .i64 sn) (.slice An nn cn)
    have kmz := km.set2 nem_g nbm_g (.int .i64 sn) (.slice An nn cn)
    have kgz := kg.put hrn.bv nbn_g
    have kaz0 := kaz.c0
    have kaz1 := kaz.c1
    have kmz0 := kmz.c0
    have kmz1 := kmz.c1
    go_wp2_with fail
    clear kaz0 kaz1
    clear kmz0 kmz1
    clear t0 t1 f0 f1
    have ka := kaz; clear kaz
    have kb := kbz; clear kbz
    have kc := kcz; clear kcz
    have kf := kfz; clear kfz
    have kg := kgz; clear kgz
    have kh := khz; clear khz
    have ki := kiz; clear kiz
    have kj := kjz; clear kjz
    have km := kmz; clear kmz
    have hT := (hT.setCell (p := ⟨_, 0, none⟩) geg (.int .i64 sn)).setCell (p := ⟨_, 1, none⟩) geg (.slice An nn cn)
    generalize (u11.setCell ⟨u4.heap.size, 0, none⟩ (.int .i64 sn)).setCell ⟨u4.heap.size, 1, none⟩ (.slice An nn cn) = Vn at *
    have HKg := HKn
    have nbg_h := nbn_h
    have hko : ab (x * (y * z)) < pw 57 := ab_mul_lt HKa.out HKm.out rfl
    have HKo := Lib.hid hko; clear hko
    have hfo := fits (up HKo.out (by decide))
    have HFo := Lib.hid hfo; clear hfo
    have ltg := kg.blk.lt
    have lth := kh.blk.lt
    (with_reducible refine (mul_any _ _ _ _ _ ka.bv km.bv (up HKa.out (by decide)) (up HKm.out (by decide))).mono ?_)
    rintro e u12 ⟨ro, rfl, hro, hb9⟩
    have hT := hT.trans (hb9.mono hT.size)
    have ka := ka.below hb9
    have kb := kb.below hb9
    have kc := kc.below hb9
    have kf := kf.below hb9
    have kg := kg.below hb9
    have kh := kh.below hb9
    have ki := ki.below hb9
    have kj := kj.below hb9
    have km := km.below hb9
    rw [HFo.out.1]
    rw [HFo.out.2] at hro
    obtain ⟨so, Ao, no, co, rfl⟩ := hro.form
    have nbo_g := Nb.high hro ltg
    have nbo_h := Nb.high hro lth
    have t0 := kh.c0
    have t1 := kh.c1
    have f0 := kh.blk.frozen 0
    have f1 := kh.blk.frozen 1
    have kaz := ka.set2 nea_h nba_h (.int .i64 so) (.slice Ao no co)
    have kbz := kb.set2 neb_h nbb_h (.int .i64 so) (.slice Ao no co)
    have kcz := kc.set2 nec_h nbc_h (.int .i64 so) (.slice Ao no co)
    have kfz := kf.set2 nef_h nbf_h (.int .i64 so) (.slice Ao no co)
    have kgz := kg.set2 neg_h nbg_h (.int .i64 so) (.slice Ao no co)
    have kiz := ki.set2 nei_h nbi_h (.int .i64 so) (.slice Ao no co)
    have kjz := kj.set2 nej_h nbj_h (.int .i64 so) (.slice Ao no co)
    have kmz := km.set2 nem_h nbm_h (.int .i64 so) (.slice Ao no co)
    have khz := kh.put hro.bv nbo_h
    have kiz0 := kiz.c0
    have kiz1 := kiz.c1
    have kjz0 := kjz.c0
    have kjz1 := kjz.c1
    go_wp2_with fail
    clear kiz0 kiz1
    clear kjz0 kjz1
    clear t0 t1 f0 f1
    have ka := kaz; clear kaz
    have kb := kbz; clear kbz
    have kc := kcz; clear kcz
    have kf := kfz; clear kfz
    have kg := kgz; clear kgz
    have kh := khz; clear khz
    have ki := kiz; clear kiz
    have kj := kjz; clear kjz
    have km := kmz; clear kmz
    have hT := (hT.setCell (p := ⟨_, 0, none⟩) geh (.int .i64 so)).setCell (p := ⟨_, 1, none⟩) geh (.slice Ao no co)
    generalize (u12.setCell ⟨u5.heap.size, 0, none⟩ (.int .i64 so)).setCell ⟨u5.heap.size, 1, none⟩ (.slice Ao no co) = Vo at *
    have HKh := HKo
    have nbh_g := nbo_g
    (with_reducible refine (refSame_any _ _ _ _ _ ki.bv kj.bv).mono ?_)
    rintro e u13 ⟨rfl, hb9⟩
    have hT := hT.trans (hb9.mono hT.size)
    have ka := ka.below hb9
    have kb := kb.below hb9
    have kc := kc.below hb9
    have kf := kf.below hb9
    have kg := kg.below hb9
    have kh := kh.below hb9
    have ki := ki.below hb9
    have kj := kj.below hb9
    have km := km.below hb9
    rw [decide_eq_true (show (x * y) = (y * x) from Int.mul_comm _ _)]
    have kg0 := kg.c0
    have kg1 := kg.c1
    have kh0 := kh.c0
    have kh1 := kh.c1
    go_wp2_with fail
    clear kg0 kg1 kh0 kh1
    (with_reducible refine (refSame_any _ _ _ _ _ kg.bv kh.bv).mono ?_)
    rintro e u14 ⟨rfl, hb9⟩
    have hT := hT.trans (hb9.mono hT.size)
    have ka := ka.below hb9
    have kb := kb.below hb9
    have kc := kc.below hb9
    have kf := kf.below hb9
    have kg := kg.below hb9
    have kh := kh.below hb9
    have ki := ki.below hb9
    have kj := kj.below hb9
    have km := km.below hb9
    rw [decide_eq_true (show ((x * y) * z) = (x * (y * z)) from Int.mul_assoc _ _ _)]
    clear kg kh kj km
    as_aux_lemma =>
      have ka0 := ka.c0
      have ka1 := ka.c1
      have kf0 := kf.c0
      have kf1 := kf.c1
      go_wp2_with fail
      clear ka0 ka1 kf0 kf1
      have hkp : ab (x * (y + z)) < pw 39 := ab_mul_lt HKa.out HKf.out rfl
      have HKp := Lib.hid hkp; clear hkp
      have hfp := fits (up HKp.out (by decide))
      have HFp := Lib.hid hfp; clear hfp
      (with_reducible refine (mul_any _ _ _ _ _ ka.bv kf.bv (up HKa.out (by decide)) (up HKf.out (by decide))).mono ?_)
      rintro e u15 ⟨rp, rfl, hrp, hb9⟩
      have hT := hT.trans (hb9.mono hT.size)
      have ka := ka.below hb9
      have kb := kb.below hb9
      have kc := kc.below hb9
      have kf := kf.below hb9
      have ki := ki.below hb9
      rw [HFp.out.1]
      rw [HFp.out.2] at hrp
      obtain ⟨sp, Ap, np, cp, rfl⟩ := hrp.form
      have kaz := ka.below ((Below.refl _ u15).alloc (Nat.le_refl _) (.cells #[.int .i64 sp, .slice Ap np cp] 24))
      have kaz0 := kaz.c0
      have kaz1 := kaz.c1
      have kcz := kc.below ((Below.refl _ u15).alloc (Nat.le_refl _) (.cells #[.int .i64 sp, .slice Ap np cp] 24))
      have kcz0 := kcz.c0
      have kcz1 := kcz.c1
      go_wp2_with fail
      clear kaz0 kaz1
      clear kaz
      clear kcz0 kcz1
      clear kcz
      obtain ⟨Wp, hW, hbx, kp⟩ := box1 hrp
      rw [← hW]
      clear hW
      have hT := hT.trans (hbx.mono hT.size)
      have ka := ka.below hbx
      have kb := kb.below hbx
      have kc := kc.below hbx
      have kf := kf.below hbx
      have ki := ki.below hbx
      have hkq : ab (x * z) < pw 38 := ab_mul_lt HKa.out HKc.out rfl
      have HKq := Lib.hid hkq; clear hkq
      have hfq := fits (up HKq.out (by decide))
      have HFq := Lib.hid hfq; clear hfq
      (with_reducible refine (mul_any _ _ _ _ _ ka.bv kc.bv (up HKa.out (by decide)) (up HKc.out (by decide))).mono ?_)
      rintro e u16 ⟨rq, rfl, hrq, hb9⟩
      have hT := hT.trans (hb9.mono hT.size)
      have ka := ka.below hb9
      have kb := kb.below hb9
      have kc := kc.below hb9
      have kf := kf.below hb9
      have ki := ki.below hb9
      have kp := kp.below hb9
      rw [HFq.out.1]
      rw [HFq.out.2] at hrq
      obtain ⟨sq, Aq, nq, cq, rfl⟩ := hrq.form
      have kiz := ki.below ((Below.refl _ u16).alloc (Nat.le_refl _) (.cells #[.int .i64 sq, .slice Aq nq cq] 24))
      have kiz0 := kiz.c0
      have kiz1 := kiz.c1
      go_wp2_with fail
      clear kiz0 kiz1
      clear kiz
      obtain ⟨Wq, hW, hbx, kq⟩ := box1 hrq
      rw [← hW]
      clear hW
      have hT := hT.trans (hbx.mono hT.size)
      have ka := ka.below hbx
      have kb := kb.below hbx
      have kc := kc.below hbx
      have kf := kf.below hbx
      have ki := ki.below hbx
      have kp := kp.below hbx
      have hkr : ab ((x * y) + (x * z)) < pw 39 := ab_add_lt HKi.out HKq.out (by decide) (by decide)
      have HKr := Lib.hid hkr; clear hkr
      have hfr := fits (up HKr.out (by decide))
      have HFr := Lib.hid hfr; clear hfr
      (with_reducible refine (add_any _ _ _ _ _ ki.bv kq.bv (up HKi.out (by decide)) (up HKq.out (by decide))).mono ?_)
      rintro e u17 ⟨rr, rfl, hrr, hb9⟩
      have hT := hT.trans (hb9.mono hT.size)
      have ka := ka.below hb9
      have kb := kb.below hb9
      have kc := kc.below hb9
      have kf := kf.below hb9
      have ki := ki.below hb9
      have kp := kp.below hb9
      have kq := kq.below hb9
      rw [HFr.out.1]
      rw [HFr.out.2] at hrr
      obtain ⟨sr, Ar, nr, cr, rfl⟩ := hrr.form
      have kaz := ka.below ((Below.refl _ u17).alloc (Nat.le_refl _) (.cells #[.int .i64 sr, .slice Ar nr cr] 24))
      have kaz0 := kaz.c0
      have kaz1 := kaz.c1
      have kbz := kb.below ((Below.refl _ u17).alloc (Nat.le_refl _) (.cells #[.int .i64 sr, .slice Ar nr cr] 24))
      have kbz0 := kbz.c0
      have kbz1 := kbz.c1
      go_wp2_with fail
      clear kaz0 kaz1
      clear kaz
      clear kbz0 kbz1
      clear kbz
      obtain ⟨Wr, hW, hbx, kr⟩ := box1 hrr
      rw [← hW]
      clear hW
      have hT := hT.trans (hbx.mono hT.size)
      have ka := ka.below hbx
      have kb := kb.below hbx
      have kc := kc.below hbx
      have kf := kf.below hbx
      have ki := ki.below hbx
      have kp := kp.below hbx
      have kq := kq.below hbx
      have hkt : ab (x - y) < pw 20 := ab_sub_lt HKa.out HKb.out (by decide) (by decide)
      have HKt := Lib.hid hkt; clear hkt
      have hft := fits (up HKt.out (by decide))
      have HFt := Lib.hid hft; clear hft
      (with_reducible refine (sub_any _ _ _ _ _ ka.bv kb.bv (up HKa.out (by decide)) (up HKb.out (by decide))).mono ?_)
      rintro e u18 ⟨rt, rfl, hrt, hb9⟩
      have hT := hT.trans (hb9.mono hT.size)
      have ka := ka.below hb9
      have kb := kb.below hb9
      have kc := kc.below hb9
      have kf := kf.below hb9
      have ki := ki.below hb9
      have kp := kp.below hb9
      have kq := kq.below hb9
      have kr := kr.below hb9
      rw [HFt.out.1]
      rw [HFt.out.2] at hrt
      obtain ⟨st, At, nt, ct, rfl⟩ := hrt.form
      have kbz := kb.below ((Below.refl _ u18).alloc (Nat.le_refl _) (.cells #[.int .i64 st, .slice At nt ct] 24))
      have kbz0 := kbz.c0
      have kbz1 := kbz.c1
      go_wp2_with fail
      clear kbz0 kbz1
      clear kbz
      obtain ⟨Wt, hW, hbx, kt⟩ := box1 hrt
      rw [← hW]
      clear hW
      have hT := hT.trans (hbx.mono hT.size)
      have ka := ka.below hbx
      have kb := kb.below hbx
      have kc := kc.below hbx
      have kf := kf.below hbx
      have ki := ki.below hbx
      have kp := kp.below hbx
      have kq := kq.below hbx
      have kr := kr.below hbx
      have hkv : ab ((x - y) + y) < pw 21 := ab_add_lt HKt.out HKb.out (by decide) (by decide)
      have HKv := Lib.hid hkv; clear hkv
      have hfv := fits (up HKv.out (by decide))
      have HFv := Lib.hid hfv; clear hfv
      (with_reducible refine (add_any _ _ _ _ _ kt.bv kb.bv (up HKt.out (by decide)) (up HKb.out (by decide))).mono ?_)
      rintro e u19 ⟨rv, rfl, hrv, hb9⟩
      have hT := hT.trans (hb9.mono hT.size)
      have ka := ka.below hb9
      have kb := kb.below hb9
      have kc := kc.below hb9
      have kf := kf.below hb9
      have ki := ki.below hb9
      have kp := kp.below hb9
      have kq := kq.below hb9
      have kr := kr.below hb9
      have kt := kt.below hb9
      rw [HFv.out.1]
      rw [HFv.out.2] at hrv
      obtain ⟨sv, Av, nv, cv, rfl⟩ := hrv.form
      have kpz := kp.below ((Below.refl _ u19).alloc (Nat.le_refl _) (.cells #[.int .i64 sv, .slice Av nv cv] 24))
      have kpz0 := kpz.c0
      have kpz1 := kpz.c1
      have krz := kr.below ((Below.refl _ u19).alloc (Nat.le_refl _) (.cells #[.int .i64 sv, .slice Av nv cv] 24))
      have krz0 := krz.c0
      have krz1 := krz.c1
      go_wp2_with fail
      clear kpz0 kpz1
      clear kpz
      clear krz0 krz1
      clear krz
      obtain ⟨Wv, hW, hbx, kv⟩ := box1 hrv
      rw [← hW]
      clear hW
      have hT := hT.trans (hbx.mono hT.size)
      have ka := ka.below hbx
      have kb := kb.below hbx
      have kc := kc.below hbx
      have kf := kf.below hbx
      have ki := ki.below hbx
      have kp := kp.below hbx
      have kq := kq.below hbx
      have kr := kr.below hbx
      have kt := kt.below hbx
      (with_reducible refine (refSame_any _ _ _ _ _ kp.bv kr.bv).mono ?_)
      rintro e u20 ⟨rfl, hb9⟩
      have hT := hT.trans (hb9.mono hT.size)
      have ka := ka.below hb9
      have kb := kb.below hb9
      have kc := kc.below hb9
      have kf := kf.below hb9
      have ki := ki.below hb9
      have kp := kp.below hb9
      have kq := kq.below hb9
      have kr := kr.below hb9
      have kt := kt.below hb9
      have kv := kv.below hb9
      rw [decide_eq_true (show (x * (y + z)) = ((x * y) + (x * z)) from Int.mul_add _ _ _)]
      have kv0 := kv.c0
      have kv1 := kv.c1
      have ka0 := ka.c0
      have ka1 := ka.c1
      go_wp2_with fail
      clear kv0 kv1 ka0 ka1
      (with_reducible refine (refSame_any _ _ _ _ _ kv.bv ka.bv).mono ?_)
      rintro e u21 ⟨rfl, hb9⟩
      have hT := hT.trans (hb9.mono hT.size)
      have ka := ka.below hb9
      have kb := kb.below hb9
      have kc := kc.below hb9
      have kf := kf.below hb9
      have ki := ki.below hb9
      have kp := kp.below hb9
      have kq := kq.below hb9
      have kr := kr.below hb9
      have kt := kt.below hb9
      have kv := kv.below hb9
      rw [decide_eq_true (show ((x - y) + y) = x from Int.sub_add_cancel _ _)]
      clear kb
      clear kc
      clear kf
      clear ki
      clear kp
      clear kq
      clear kr
      clear kt
      clear kv
      as_aux_lemma =>
        have e0 : ∀ W' : World, Below u21.heap.size u21 W' → W'.cell? ⟨w.heap.size, 0, none⟩ = some (.int .i64 s1) ∧ W'.cell? ⟨w.heap.size, 1, none⟩ = some (.slice A1 n1 c1) ∧ Below u21.heap.size u21 W' := fun W' hW =>
          ⟨(ka.below hW).c0, (ka.below hW).c1, hW⟩
        have E0 := Lib.hid e0; clear e0
        have hB00 : Below u21.heap.size u21 u21.drew := (Below.refl _ _).drew
        have hml := fun (w' : World) (hb : Below u21.heap.size u21 w') r (h : BV w' w'.heap.size r 0) => add_any x 0 _ r w' (ka.below hb).bv h (up HKa.out (by decide)) (lt60 (by decide))
        unfold ResP at hml
        rw [show (x + 0) = x from Int.add_zero x] at hml
        have hfr : fite x = 0 ∧ fitz x = x := fits (up HKa.out (by decide))
        rw [hfr.1, hfr.2] at hml
        clear hfr
        have HML := Lib.hid hml; clear hml
        have hTs := hT.size
        go_upto_region 25 with fail
        go_cut [26, 9] from 239 to 244 (fun p e wx => ∃ (g : Nat) (s : Int) (A : Option Addr) (n c : Nat), p = .pointer (some ⟨g, 0, none⟩) ∧ e = .int .i64 0 ∧ Bx wx g s A n c x ∧ Below u21.heap.size u21 wx)
        case first =>
          go_region_held3 (fun W' => W'.cell? ⟨w.heap.size, 0, none⟩ = some (.int .i64 s1) ∧ W'.cell? ⟨w.heap.size, 1, none⟩ = some (.slice A1 n1 c1) ∧ Below u21.heap.size u21 W')
            (first | exact E0.out _ (by assumption) | exact E0.out _ ⟨rfl, rfl, rfl, Nat.le_refl _, fun _ _ => rfl⟩ | exact E0.out _ (below_new hB5 _) | exact E0.out _ (below_st hB5 hge _ _) | exact E0.out _ (below_new hB4 _) | exact E0.out _ (below_new hB00 _))
            (first
              | (go_at_call 12; have _h := hB4; (first | refine (HML.out _ hB4 _ hq1.bv).mono ?_ | refine (HML.out _ (below_new hB4 _) _ (hq1.bv.new _)).mono ?_); rintro e u23 ⟨rA, rfl, hrA, hb5⟩; have hB5 : Below u21.heap.size u21 u23 := (by first | exact hB4.trans (hb5.mono hB4.size) | exact (below_new hB4 _).trans (hb5.mono (below_new hB4 _).size)); obtain ⟨sA, AA, nA, cA, rfl⟩ := hrA.form; (try (have hk5 := blk_run hb5; have hge := hB4.size; have hlt : u22.heap.size < (u22.alloc (.cells #[.int .i64 0, .slice none 0 0] 24)).heap.size := (by simp); have z0 := hk5.cell 0; have z1 := hk5.cell 1; have y0 := hk5.frozen 0; have y1 := hk5.frozen 1)); (try (have hk5 := hk4.below hb5 hk4.lt; have hge := Nat.le_refl u21.heap.size; have hlt := hk4.lt; have z0 := hk5.cell 0; have z1 := hk5.cell 1; have y0 := hk5.frozen 0; have y1 := hk5.frozen 1)))
              | (go_at_call 16; (first | refine (of_any 0 _ (by omega) (by omega)).mono ?_); rintro e u22 ⟨r1, rfl, hq1, hb4⟩; have hB4 : Below u21.heap.size u21 u22 := (by first | exact ⟨hb4.os, hb4.tape, hb4.output, hb4.size, hb4.block⟩ | exact (below_new hB00 _).trans (hb4.mono (below_new hB00 _).size)); (try (have hk4 : Blk u22 u21.heap.size 24 #[.int .i64 0, .slice none 0 0] := blk_run (b := u21.drew) hb4))))
          all_goals
            go_wp2_with fail
            go_meet
            first
              | exact ⟨_, _, _, _, _, rfl, rfl, box_new hrA, below_new hB5 _⟩
              | exact ⟨_, _, _, _, _, rfl, rfl, box_st hk5 hrA hlt, below_st hB5 hge _ _⟩
        obtain ⟨gA, sA, AA, nA, cA, rfl, rfl, kA, hb9⟩ := hcut
        clear E0 hB00 HML hTs
        have hT := hT.trans (hb9.mono hT.size)
        have ka := ka.below hb9
        have e0 : ∀ W' : World, Below wc.heap.size wc W' → W'.cell? ⟨w.heap.size, 0, none⟩ = some (.int .i64 s1) ∧ W'.cell? ⟨w.heap.size, 1, none⟩ = some (.slice A1 n1 c1) ∧ Below wc.heap.size wc W' := fun W' hW =>
          ⟨(ka.below hW).c0, (ka.below hW).c1, hW⟩
        have E0 := Lib.hid e0; clear e0
        have hB00 : Below wc.heap.size wc wc.drew := (Below.refl _ _).drew
        have hml := fun (w' : World) (hb : Below wc.heap.size wc w') r (h : BV w' w'.heap.size r 1) => mul_any x 1 _ r w' (ka.below hb).bv h (up HKa.out (by decide)) (lt60 (by decide))
        unfold ResP at hml
        rw [show (x * 1) = x from Int.mul_one x] at hml
        have hfr : fite x = 0 ∧ fitz x = x := fits (up HKa.out (by decide))
        rw [hfr.1, hfr.2] at hml
        clear hfr
        have HML := Lib.hid hml; clear hml
        have hTs := hT.size
        go_upto_region 26 with fail
        go_cut [27, 11] from 245 to 250 (fun p e wx => ∃ (g : Nat) (s : Int) (A : Option Addr) (n c : Nat), p = .pointer (some ⟨g, 0, none⟩) ∧ e = .int .i64 0 ∧ Bx wx g s A n c x ∧ Below wc.heap.size wc wx)
        case first =>
          go_region_held3 (fun W' => W'.cell? ⟨w.heap.size, 0, none⟩ = some (.int .i64 s1) ∧ W'.cell? ⟨w.heap.size, 1, none⟩ = some (.slice A1 n1 c1) ∧ Below wc.heap.size wc W')
            (first | exact E0.out _ (by assumption) | exact E0.out _ ⟨rfl, rfl, rfl, Nat.le_refl _, fun _ _ => rfl⟩ | exact E0.out _ (below_new hB5 _) | exact E0.out _ (below_st hB5 hge _ _) | exact E0.out _ (below_new hB4 _) | exact E0.out _ (below_new hB00 _))
            (first
              | (go_at_call 14; have _h := hB4; (first | refine (HML.out _ hB4 _ hq1.bv).mono ?_ | refine (HML.out _ (below_new hB4 _) _ (hq1.bv.new _)).mono ?_); rintro e u25 ⟨rB, rfl, hrB, hb5⟩; have hB5 : Below wc.heap.size wc u25 := (by first | exact hB4.trans (hb5.mono hB4.size) | exact (below_new hB4 _).trans (hb5.mono (below_new hB4 _).size)); obtain ⟨sB, AB, nB, cB, rfl⟩ := hrB.form; (try (have hk5 := blk_run hb5; have hge := hB4.size; have hlt : u24.heap.size < (u24.alloc (.cells #[.int .i64 0, .slice none 0 0] 24)).heap.size := (by simp); have z0 := hk5.cell 0; have z1 := hk5.cell 1; have y0 := hk5.frozen 0; have y1 := hk5.frozen 1)); (try (have hk5 := hk4.below hb5 hk4.lt; have hge := Nat.le_refl wc.heap.size; have hlt := hk4.lt; have z0 := hk5.cell 0; have z1 := hk5.cell 1; have y0 := hk5.frozen 0; have y1 := hk5.frozen 1)))
              | (go_at_call 16; (first | refine (of_any 1 _ (by omega) (by omega)).mono ?_); rintro e u24 ⟨r1, rfl, hq1, hb4⟩; have hB4 : Below wc.heap.size wc u24 := (by first | exact ⟨hb4.os, hb4.tape, hb4.output, hb4.size, hb4.block⟩ | exact (below_new hB00 _).trans (hb4.mono (below_new hB00 _).size)); (try (have hk4 : Blk u24 wc.heap.size 24 #[.int .i64 0, .slice none 0 0] := blk_run (b := wc.drew) hb4))))
          all_goals
            go_wp2_with fail
            go_meet
            first
              | exact ⟨_, _, _, _, _, rfl, rfl, box_new hrB, below_new hB5 _⟩
              | exact ⟨_, _, _, _, _, rfl, rfl, box_st hk5 hrB hlt, below_st hB5 hge _ _⟩
        obtain ⟨gB, sB, AB, nB, cB, rfl, rfl, kB, hb9⟩ := hcut
        clear E0 hB00 HML hTs
        have hT := hT.trans (hb9.mono hT.size)
        have ka := ka.below hb9
        have kA := kA.below hb9
        have e0 : ∀ W' : World, Below wc.heap.size wc W' → W'.cell? ⟨w.heap.size, 0, none⟩ = some (.int .i64 s1) ∧ W'.cell? ⟨w.heap.size, 1, none⟩ = some (.slice A1 n1 c1) ∧ Below wc.heap.size wc W' := fun W' hW =>
          ⟨(ka.below hW).c0, (ka.below hW).c1, hW⟩
        have E0 := Lib.hid e0; clear e0
        have hB00 : Below wc.heap.size wc wc.drew := (Below.refl _ _).drew
        have hml := fun (w' : World) (hb : Below wc.heap.size wc w') r (h : BV w' w'.heap.size r 0) => mul_any x 0 _ r w' (ka.below hb).bv h (up HKa.out (by decide)) (lt60 (by decide))
        unfold ResP at hml
        rw [show (x * 0) = (0 : Int) from Int.mul_zero x] at hml
        have hfr : fite (0 : Int) = 0 ∧ fitz (0 : Int) = (0 : Int) := fits (by rw [ab_zero]; exact pw_pos 60)
        rw [hfr.1, hfr.2] at hml
        clear hfr
        have HML := Lib.hid hml; clear hml
        have hTs := hT.size
        go_upto_region 27 with fail
        go_cut [28, 13] from 251 to 256 (fun p e wx => ∃ (g : Nat) (s : Int) (A : Option Addr) (n c : Nat), p = .pointer (some ⟨g, 0, none⟩) ∧ e = .int .i64 0 ∧ Bx wx g s A n c 0 ∧ Below wc.heap.size wc wx)
        case first =>
          go_region_held3 (fun W' => W'.cell? ⟨w.heap.size, 0, none⟩ = some (.int .i64 s1) ∧ W'.cell? ⟨w.heap.size, 1, none⟩ = some (.slice A1 n1 c1) ∧ Below wc.heap.size wc W')
            (first | exact E0.out _ (by assumption) | exact E0.out _ ⟨rfl, rfl, rfl, Nat.le_refl _, fun _ _ => rfl⟩ | exact E0.out _ (below_new hB5 _) | exact E0.out _ (below_st hB5 hge _ _) | exact E0.out _ (below_new hB4 _) | exact E0.out _ (below_new hB00 _))
            (first
              | (go_at_call 14; have _h := hB4; (first | refine (HML.out _ hB4 _ hq1.bv).mono ?_ | refine (HML.out _ (below_new hB4 _) _ (hq1.bv.new _)).mono ?_); rintro e u27 ⟨rC, rfl, hrC, hb5⟩; have hB5 : Below wc.heap.size wc u27 := (by first | exact hB4.trans (hb5.mono hB4.size) | exact (below_new hB4 _).trans (hb5.mono (below_new hB4 _).size)); obtain ⟨sC, AC, nC, cC, rfl⟩ := hrC.form; (try (have hk5 := blk_run hb5; have hge := hB4.size; have hlt : u26.heap.size < (u26.alloc (.cells #[.int .i64 0, .slice none 0 0] 24)).heap.size := (by simp); have z0 := hk5.cell 0; have z1 := hk5.cell 1; have y0 := hk5.frozen 0; have y1 := hk5.frozen 1)); (try (have hk5 := hk4.below hb5 hk4.lt; have hge := Nat.le_refl wc.heap.size; have hlt := hk4.lt; have z0 := hk5.cell 0; have z1 := hk5.cell 1; have y0 := hk5.frozen 0; have y1 := hk5.frozen 1)))
              | (go_at_call 16; (first | refine (of_any 0 _ (by omega) (by omega)).mono ?_); rintro e u26 ⟨r1, rfl, hq1, hb4⟩; have hB4 : Below wc.heap.size wc u26 := (by first | exact ⟨hb4.os, hb4.tape, hb4.output, hb4.size, hb4.block⟩ | exact (below_new hB00 _).trans (hb4.mono (below_new hB00 _).size)); (try (have hk4 : Blk u26 wc.heap.size 24 #[.int .i64 0, .slice none 0 0] := blk_run (b := wc.drew) hb4))))
          all_goals
            go_wp2_with fail
            go_meet
            first
              | exact ⟨_, _, _, _, _, rfl, rfl, box_new hrC, below_new hB5 _⟩
              | exact ⟨_, _, _, _, _, rfl, rfl, box_st hk5 hrC hlt, below_st hB5 hge _ _⟩
        obtain ⟨gC, sC, AC, nC, cC, rfl, rfl, kC, hb9⟩ := hcut
        clear E0 hB00 HML hTs
        have hT := hT.trans (hb9.mono hT.size)
        have ka := ka.below hb9
        have kA := kA.below hb9
        have kB := kB.below hb9
        have kA0 := kA.c0
        have kA1 := kA.c1
        have ka0 := ka.c0
        have ka1 := ka.c1
        go_wp2_with fail
        clear kA0 kA1 ka0 ka1
        (with_reducible refine (refSame_any _ _ _ _ _ kA.bv ka.bv).mono ?_)
        rintro e u28 ⟨rfl, hb9⟩
        have hT := hT.trans (hb9.mono hT.size)
        have ka := ka.below hb9
        have kA := kA.below hb9
        have kB := kB.below hb9
        have kC := kC.below hb9
        rw [decide_eq_true (show x = x from rfl)]
        have kB0 := kB.c0
        have kB1 := kB.c1
        have ka0 := ka.c0
        have ka1 := ka.c1
        go_wp2_with fail
        clear kB0 kB1 ka0 ka1
        (with_reducible refine (refSame_any _ _ _ _ _ kB.bv ka.bv).mono ?_)
        rintro e u29 ⟨rfl, hb9⟩
        have hT := hT.trans (hb9.mono hT.size)
        have ka := ka.below hb9
        have kA := kA.below hb9
        have kB := kB.below hb9
        have kC := kC.below hb9
        rw [decide_eq_true (show x = x from rfl)]
        have kC0 := kC.c0
        have kC1 := kC.c1
        go_wp2_with fail
        clear kC0 kC1
        (with_reducible refine (refSame_any _ _ _ _ _ kC.bv (BV.zero _ _)).mono ?_)
        rintro e u30 ⟨rfl, hb9⟩
        have hT := hT.trans (hb9.mono hT.size)
        have ka := ka.below hb9
        have kA := kA.below hb9
        have kB := kB.below hb9
        have kC := kC.below hb9
        rw [show decide ((0 : Int) = 0) = true from rfl]
        go_wp2_with fail
        go_ret
        exact ⟨rfl, hT⟩

end Go.Proofs.YtofndidngjglmaaDoor
