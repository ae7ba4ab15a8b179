/- Walks: the law on order. Printed by a program. -/
import Derived.Test.YtofndidngjglmaaDoorZo
namespace Go.Proofs.YtofndidngjglmaaDoor
open Go.RowKit

set_option maxRecDepth 100000 in
set_option maxHeartbeats 8000000 in
theorem order_law (s1 s2 s3 : Int) (l1 l2 l3 : List Int) (A1 A2 A3 : Option Addr) (n1 c1 n2 c2 n3 c3 : Nat) (w : World) (ht : TB w) (h1 : Ar w s1 l1 A1 n1 c1) (h2 : Ar w s2 l2 A2 n2 c2) (h3 : Ar w s3 l3 A3 n3 c3) :
    Calls Tryd.prog 4 #[.agg #[.int .i64 s1, .slice A1 n1 c1], .agg #[.int .i64 s2, .slice A2 n2 c2], .agg #[.int .i64 s3, .slice A3 n3 c3]] w fun e w' => e = .returned (.bool true) ∧ Below w.heap.size w w' := by
  have HT := Lib.hid ht; clear ht
  go_enter Tryd.func4, Tryd.ntmps4
  go_wp2_with fail
  obtain ⟨W0, hW, hbx, q1, q2, q3⟩ := abox3 h1 h2 h3
  rw [← hW]
  clear hW h1 h2 h3
  have hT := hbx
  (with_reducible refine (small_any _ (HT.out.below hT)).mono ?_)
  rintro e v0 ⟨rfl, hb⟩
  have hT := hT.trans (hb.mono hT.size)
  have q1 := q1.below hb
  have q2 := q2.below hb
  have q3 := q3.below hb
  have a0 := q1.c0
  have a1 := q1.c1
  go_wp2_with fail
  clear a0 a1
  by_cases hcf1 : n1 ≤ 25
  rotate_left
  · refine (q1.ar.few 25 false (by simp; omega)).mono ?_
    rintro e v ⟨rfl, hb⟩
    go_wp2_with fail
    go_ret
    exact ⟨rfl, hT.trans (hb.mono hT.size)⟩
  refine (q1.ar.few 25 true (by simp; omega)).mono ?_
  rintro e vf1 ⟨rfl, hb⟩
  have hT := hT.trans (hb.mono hT.size)
  have q1 := q1.below hb
  have q2 := q2.below hb
  have q3 := q3.below hb
  have HCf1 := Lib.hid hcf1; clear hcf1
  have a0 := q2.c0
  have a1 := q2.c1
  go_wp2_with fail
  clear a0 a1
  by_cases hcf2 : n2 ≤ 25
  rotate_left
  · refine (q2.ar.few 25 false (by simp; omega)).mono ?_
    rintro e v ⟨rfl, hb⟩
    go_wp2_with fail
    go_ret
    exact ⟨rfl, hT.trans (hb.mono hT.size)⟩
  refine (q2.ar.few 25 true (by simp; omega)).mono ?_
  rintro e vf2 ⟨rfl, hb⟩
  have hT := hT.trans (hb.mono hT.size)
  have q1 := q1.below hb
  have q2 := q2.below hb
  have q3 := q3.below hb
  have HCf2 := Lib.hid hcf2; clear hcf2
  have a0 := q3.c0
  have a1 := q3.c1
  go_wp2_with fail
  clear a0 a1
  by_cases hcf3 : n3 ≤ 25
  rotate_left
  · refine (q3.ar.few 25 false (by simp; omega)).mono ?_
    rintro e v ⟨rfl, hb⟩
    go_wp2_with fail
    go_ret
    exact ⟨rfl, hT.trans (hb.mono hT.size)⟩
  refine (q3.ar.few 25 true (by simp; omega)).mono ?_
  rintro e vf3 ⟨rfl, hb⟩
  have hT := hT.trans (hb.mono hT.size)
  have q1 := q1.below hb
  have q2 := q2.below hb
  have q3 := q3.below hb
  have HCf3 := Lib.hid hcf3; clear hcf3
  have a0 := q1.c0
  have a1 := q1.c1
  go_wp2_with fail
  clear a0 a1
  by_cases hcr1 : RightP s1 l1
  rotate_left
  · refine (q1.ar.right false (by simp [hcr1])).mono ?_
    rintro e v ⟨rfl, hb⟩
    go_wp2_with fail
    go_ret
    exact ⟨rfl, hT.trans (hb.mono hT.size)⟩
  refine (q1.ar.right true (by simp [hcr1])).mono ?_
  rintro e vr1 ⟨rfl, hb⟩
  have hT := hT.trans (hb.mono hT.size)
  have q1 := q1.below hb
  have q2 := q2.below hb
  have q3 := q3.below hb
  have HCr1 := Lib.hid hcr1; clear hcr1
  have a0 := q2.c0
  have a1 := q2.c1
  go_wp2_with fail
  clear a0 a1
  by_cases hcr2 : RightP s2 l2
  rotate_left
  · refine (q2.ar.right false (by simp [hcr2])).mono ?_
    rintro e v ⟨rfl, hb⟩
    go_wp2_with fail
    go_ret
    exact ⟨rfl, hT.trans (hb.mono hT.size)⟩
  refine (q2.ar.right true (by simp [hcr2])).mono ?_
  rintro e vr2 ⟨rfl, hb⟩
  have hT := hT.trans (hb.mono hT.size)
  have q1 := q1.below hb
  have q2 := q2.below hb
  have q3 := q3.below hb
  have HCr2 := Lib.hid hcr2; clear hcr2
  have a0 := q3.c0
  have a1 := q3.c1
  go_wp2_with fail
  clear a0 a1
  by_cases hcr3 : RightP s3 l3
  rotate_left
  · refine (q3.ar.right false (by simp [hcr3])).mono ?_
    rintro e v ⟨rfl, hb⟩
    go_wp2_with fail
    go_ret
    exact ⟨rfl, hT.trans (hb.mono hT.size)⟩
  refine (q3.ar.right true (by simp [hcr3])).mono ?_
  rintro e vr3 ⟨rfl, hb⟩
  have hT := hT.trans (hb.mono hT.size)
  have q1 := q1.below hb
  have q2 := q2.below hb
  have q3 := q3.below hb
  have HCr3 := Lib.hid hcr3; clear hcr3
  obtain ⟨x, ka, hsa, hka⟩ := q1.bx HCr1.out
  have hka := hka 25 HCf1.out
  have HKa := Lib.hid hka; clear hka
  clear q1 HCr1 HCf1
  have HSa := Lib.hid hsa; clear hsa
  obtain ⟨y, kb, hsb, hkb⟩ := q2.bx HCr2.out
  have hkb := hkb 25 HCf2.out
  have HKb := Lib.hid hkb; clear hkb
  clear q2 HCr2 HCf2
  have HSb := Lib.hid hsb; clear hsb
  obtain ⟨z, kc, hsc, hkc⟩ := q3.bx HCr3.out
  have hkc := hkc 25 HCf3.out
  have HKc := Lib.hid hkc; clear hkc
  clear q3 HCr3 HCf3
  have HSc := Lib.hid hsc; clear hsc
  have ka0 := ka.c0
  have ka1 := ka.c1
  have kb0 := kb.c0
  have kb1 := kb.c1
  go_wp2_with fail
  clear ka0 ka1 kb0 kb1
  obtain ⟨N, hN⟩ : ∃ N, Lib.compareInt x y = N := ⟨_, rfl⟩
  have hNb := cmp_bd x y
  have hsz := sgn_bd z
  have hs3 := HSc.out
  obtain ⟨B, hB⟩ : ∃ B, (N == 0) = B := ⟨_, rfl⟩
  have hBx : decide (x = y) = B := by rw [← cmp_zero, hN]; exact hB
  rw [hN] at hNb
  rw [← hs3] at hsz
  have hmm := sgn_mul_bd hNb hsz
  have hwn : IntKind.i64.wrap (-N) = -N := IntWalk.i64_in _ (by omega)
  have hwm : IntKind.i64.wrap (N * s3) = N * s3 := IntWalk.i64_in _ (by omega)
  have HN := Lib.hid hN
  have HBX := Lib.hid hBx; clear hBx
  have HNB := Lib.hid hNb
  clear hmm hsz hs3
  (with_reducible refine (compare_any _ _ _ _ _ ka.bv kb.bv (up HKa.out (by decide)) (up HKb.out (by decide))).mono ?_)
  rintro e u1 ⟨rfl, hb9⟩
  have hT := hT.trans (hb9.mono hT.size)
  have ka := ka.below hb9
  have kb := kb.below hb9
  have kc := kc.below hb9
  rw [hN]
  clear hN hNb
  have ka0 := ka.c0
  have ka1 := ka.c1
  have kb0 := kb.c0
  have kb1 := kb.c1
  go_wp2_with fail
  clear ka0 ka1 kb0 kb1
  have hkd : ab (x - y) < pw 26 := ab_sub_lt HKa.out HKb.out (by decide) (by decide)
  have HKd := Lib.hid hkd; clear hkd
  have hfd := fits (up HKd.out (by decide))
  have HFd := Lib.hid hfd; clear hfd
  (with_reducible refine (sub_any _ _ _ _ _ ka.bv kb.bv (up HKa.out (by decide)) (up HKb.out (by decide))).mono ?_)
  rintro e u2 ⟨rd, rfl, hrd, hb9⟩
  have hT := hT.trans (hb9.mono hT.size)
  have ka := ka.below hb9
  have kb := kb.below hb9
  have kc := kc.below hb9
  rw [HFd.out.1]
  rw [HFd.out.2] at hrd
  obtain ⟨sd, Ad, nd, cd, rfl⟩ := hrd.form
  have kaz := ka.below ((Below.refl _ u2).alloc (Nat.le_refl _) (.cells #[.int .i64 sd, .slice Ad nd cd] 24))
  have kaz0 := kaz.c0
  have kaz1 := kaz.c1
  have kcz := kc.below ((Below.refl _ u2).alloc (Nat.le_refl _) (.cells #[.int .i64 sd, .slice Ad nd cd] 24))
  have kcz0 := kcz.c0
  have kcz1 := kcz.c1
  go_wp2_with fail
  clear kaz0 kaz1
  clear kaz
  clear kcz0 kcz1
  clear kcz
  obtain ⟨Wd, hW, hbx, kd⟩ := box1 hrd
  rw [← hW]
  clear hW
  have hT := hT.trans (hbx.mono hT.size)
  have ka := ka.below hbx
  have kb := kb.below hbx
  have kc := kc.below hbx
  have hsd : N = sd := by rw [kd.sg, cmp_sub, HN.out]
  subst hsd
  have hke : ab (x + z) < pw 26 := ab_add_lt HKa.out HKc.out (by decide) (by decide)
  have HKe := Lib.hid hke; clear hke
  have hfe := fits (up HKe.out (by decide))
  have HFe := Lib.hid hfe; clear hfe
  (with_reducible refine (add_any _ _ _ _ _ ka.bv kc.bv (up HKa.out (by decide)) (up HKc.out (by decide))).mono ?_)
  rintro e u3 ⟨re, rfl, hre, hb9⟩
  have hT := hT.trans (hb9.mono hT.size)
  have ka := ka.below hb9
  have kb := kb.below hb9
  have kc := kc.below hb9
  have kd := kd.below hb9
  rw [HFe.out.1]
  rw [HFe.out.2] at hre
  obtain ⟨se, Ae, ne, ce, rfl⟩ := hre.form
  have kbz := kb.below ((Below.refl _ u3).alloc (Nat.le_refl _) (.cells #[.int .i64 se, .slice Ae ne ce] 24))
  have kbz0 := kbz.c0
  have kbz1 := kbz.c1
  have kcz := kc.below ((Below.refl _ u3).alloc (Nat.le_refl _) (.cells #[.int .i64 se, .slice Ae ne ce] 24))
  have kcz0 := kcz.c0
  have kcz1 := kcz.c1
  go_wp2_with fail
  clear kbz0 kbz1
  clear kbz
  clear kcz0 kcz1
  clear kcz
  obtain ⟨We, hW, hbx, ke⟩ := box1 hre
  rw [← hW]
  clear hW
  have hT := hT.trans (hbx.mono hT.size)
  have ka := ka.below hbx
  have kb := kb.below hbx
  have kc := kc.below hbx
  have kd := kd.below hbx
  have hkf : ab (y + z) < pw 26 := ab_add_lt HKb.out HKc.out (by decide) (by decide)
  have HKf := Lib.hid hkf; clear hkf
  have hff := fits (up HKf.out (by decide))
  have HFf := Lib.hid hff; clear hff
  (with_reducible refine (add_any _ _ _ _ _ kb.bv kc.bv (up HKb.out (by decide)) (up HKc.out (by decide))).mono ?_)
  rintro e u4 ⟨rf, rfl, hrf, hb9⟩
  have hT := hT.trans (hb9.mono hT.size)
  have ka := ka.below hb9
  have kb := kb.below hb9
  have kc := kc.below hb9
  have kd := kd.below hb9
  have ke := ke.below hb9
  rw [HFf.out.1]
  rw [HFf.out.2] at hrf
  obtain ⟨sf, Af, nf, cf, rfl⟩ := hrf.form
  have kaz := ka.below ((Below.refl _ u4).alloc (Nat.le_refl _) (.cells #[.int .i64 sf, .slice Af nf cf] 24))
  have kaz0 := kaz.c0
  have kaz1 := kaz.c1
  have kcz := kc.below ((Below.refl _ u4).alloc (Nat.le_refl _) (.cells #[.int .i64 sf, .slice Af nf cf] 24))
  have kcz0 := kcz.c0
  have kcz1 := kcz.c1
  go_wp2_with fail
  clear kaz0 kaz1
  clear kaz
  clear kcz0 kcz1
  clear kcz
  obtain ⟨Wf, hW, hbx, kf⟩ := box1 hrf
  rw [← hW]
  clear hW
  have hT := hT.trans (hbx.mono hT.size)
  have ka := ka.below hbx
  have kb := kb.below hbx
  have kc := kc.below hbx
  have kd := kd.below hbx
  have ke := ke.below hbx
  have hkg : ab (x * z) < pw 50 := ab_mul_lt HKa.out HKc.out rfl
  have HKg := Lib.hid hkg; clear hkg
  have hfg := fits (up HKg.out (by decide))
  have HFg := Lib.hid hfg; clear hfg
  (with_reducible refine (mul_any _ _ _ _ _ ka.bv kc.bv (up HKa.out (by decide)) (up HKc.out (by decide))).mono ?_)
  rintro e u5 ⟨rg, rfl, hrg, hb9⟩
  have hT := hT.trans (hb9.mono hT.size)
  have ka := ka.below hb9
  have kb := kb.below hb9
  have kc := kc.below hb9
  have kd := kd.below hb9
  have ke := ke.below hb9
  have kf := kf.below hb9
  rw [HFg.out.1]
  rw [HFg.out.2] at hrg
  obtain ⟨sg, Ag, ng, cg, rfl⟩ := hrg.form
  have kbz := kb.below ((Below.refl _ u5).alloc (Nat.le_refl _) (.cells #[.int .i64 sg, .slice Ag ng cg] 24))
  have kbz0 := kbz.c0
  have kbz1 := kbz.c1
  have kcz := kc.below ((Below.refl _ u5).alloc (Nat.le_refl _) (.cells #[.int .i64 sg, .slice Ag ng cg] 24))
  have kcz0 := kcz.c0
  have kcz1 := kcz.c1
  go_wp2_with fail
  clear kbz0 kbz1
  clear kbz
  clear kcz0 kcz1
  clear kcz
  obtain ⟨Wg, hW, hbx, kg⟩ := box1 hrg
  rw [← hW]
  clear hW
  have hT := hT.trans (hbx.mono hT.size)
  have ka := ka.below hbx
  have kb := kb.below hbx
  have kc := kc.below hbx
  have kd := kd.below hbx
  have ke := ke.below hbx
  have kf := kf.below hbx
  have hkh : ab (y * z) < pw 50 := ab_mul_lt HKb.out HKc.out rfl
  have HKh := Lib.hid hkh; clear hkh
  have hfh := fits (up HKh.out (by decide))
  have HFh := Lib.hid hfh; clear hfh
  (with_reducible refine (mul_any _ _ _ _ _ kb.bv kc.bv (up HKb.out (by decide)) (up HKc.out (by decide))).mono ?_)
  rintro e u6 ⟨rh, rfl, hrh, hb9⟩
  have hT := hT.trans (hb9.mono hT.size)
  have ka := ka.below hb9
  have kb := kb.below hb9
  have kc := kc.below hb9
  have kd := kd.below hb9
  have ke := ke.below hb9
  have kf := kf.below hb9
  have kg := kg.below hb9
  rw [HFh.out.1]
  rw [HFh.out.2] at hrh
  obtain ⟨sh, Ah, nh, ch, rfl⟩ := hrh.form
  go_wp2_with fail
  obtain ⟨Wh, hW, hbx, kh⟩ := box1 hrh
  rw [← hW]
  clear hW
  have hT := hT.trans (hbx.mono hT.size)
  have ka := ka.below hbx
  have kb := kb.below hbx
  have kc := kc.below hbx
  have kd := kd.below hbx
  have ke := ke.below hbx
  have kf := kf.below hbx
  have kg := kg.below hbx
  have e0 : ∀ W' : World, Below Wh.heap.size Wh W' → W'.cell? ⟨w.heap.size, 0, none⟩ = some (.int .i64 s1) ∧ W'.cell? ⟨w.heap.size, 1, none⟩ = some (.slice A1 n1 c1) ∧ W'.cell? ⟨w.heap.size + 1, 0, none⟩ = some (.int .i64 s2) ∧ W'.cell? ⟨w.heap.size + 1, 1, none⟩ = some (.slice A2 n2 c2) ∧ W'.cell? ⟨u2.heap.size, 0, none⟩ = some (.int .i64 N) ∧ W'.cell? ⟨u3.heap.size, 0, none⟩ = some (.int .i64 se) ∧ W'.cell? ⟨u3.heap.size, 1, none⟩ = some (.slice Ae ne ce) ∧ W'.cell? ⟨u4.heap.size, 0, none⟩ = some (.int .i64 sf) ∧ W'.cell? ⟨u4.heap.size, 1, none⟩ = some (.slice Af nf cf) ∧ W'.cell? ⟨u5.heap.size, 0, none⟩ = some (.int .i64 sg) ∧ W'.cell? ⟨u5.heap.size, 1, none⟩ = some (.slice Ag ng cg) ∧ W'.cell? ⟨u6.heap.size, 0, none⟩ = some (.int .i64 sh) ∧ W'.cell? ⟨u6.heap.size, 1, none⟩ = some (.slice Ah nh ch) ∧ W'.cell? ⟨w.heap.size + 1 + 1, 0, none⟩ = some (.int .i64 s3) ∧ Below Wh.heap.size Wh W' := fun W' hW =>
    ⟨(ka.below hW).c0, (ka.below hW).c1, (kb.below hW).c0, (kb.below hW).c1, (kd.below hW).c0, (ke.below hW).c0, (ke.below hW).c1, (kf.below hW).c0, (kf.below hW).c1, (kg.below hW).c0, (kg.below hW).c1, (kh.below hW).c0, (kh.below hW).c1, (kc.below hW).c0, hW⟩
  have E0 := Lib.hid e0; clear e0
  have hB00 : Below Wh.heap.size Wh Wh.drew := (Below.refl _ _).drew
  have hs1 := fun (w' : World) (hb : Below Wh.heap.size Wh w') => same_any _ _ _ _ w' (ka.below hb).bv (kb.below hb).bv
  rw [HBX.out] at hs1
  have HS1 := Lib.hid hs1; clear hs1
  have hc1 := fun (w' : World) (hb : Below Wh.heap.size Wh w') => compare_any _ _ _ _ w' (kb.below hb).bv (ka.below hb).bv (up HKb.out (by decide)) (up HKa.out (by decide))
  rw [cmp_neg, HN.out] at hc1
  have HC1 := Lib.hid hc1; clear hc1
  have hc2 := fun (w' : World) (hb : Below Wh.heap.size Wh w') => compare_any _ _ _ _ w' (ke.below hb).bv (kf.below hb).bv (up HKe.out (by decide)) (up HKf.out (by decide))
  rw [cmp_add, HN.out] at hc2
  have HC2 := Lib.hid hc2; clear hc2
  have hc3 := fun (w' : World) (hb : Below Wh.heap.size Wh w') => compare_any _ _ _ _ w' (kg.below hb).bv (kh.below hb).bv (up HKg.out (by decide)) (up HKh.out (by decide))
  rw [cmp_mul, HN.out, ← HSc.out] at hc3
  have HC3 := Lib.hid hc3; clear hc3
  have hTs := hT.size
  go_wp2_with fail
  go_region_held3 (fun W' => W'.cell? ⟨w.heap.size, 0, none⟩ = some (.int .i64 s1) ∧ W'.cell? ⟨w.heap.size, 1, none⟩ = some (.slice A1 n1 c1) ∧ W'.cell? ⟨w.heap.size + 1, 0, none⟩ = some (.int .i64 s2) ∧ W'.cell? ⟨w.heap.size + 1, 1, none⟩ = some (.slice A2 n2 c2) ∧ W'.cell? ⟨u2.heap.size, 0, none⟩ = some (.int .i64 N) ∧ W'.cell? ⟨u3.heap.size, 0, none⟩ = some (.int .i64 se) ∧ W'.cell? ⟨u3.heap.size, 1, none⟩ = some (.slice Ae ne ce) ∧ W'.cell? ⟨u4.heap.size, 0, none⟩ = some (.int .i64 sf) ∧ W'.cell? ⟨u4.heap.size, 1, none⟩ = some (.slice Af nf cf) ∧ W'.cell? ⟨u5.heap.size, 0, none⟩ = some (.int .i64 sg) ∧ W'.cell? ⟨u5.heap.size, 1, none⟩ = some (.slice Ag ng cg) ∧ W'.cell? ⟨u6.heap.size, 0, none⟩ = some (.int .i64 sh) ∧ W'.cell? ⟨u6.heap.size, 1, none⟩ = some (.slice Ah nh ch) ∧ W'.cell? ⟨w.heap.size + 1 + 1, 0, none⟩ = some (.int .i64 s3) ∧ Below Wh.heap.size Wh W')
    (first | exact E0.out _ (by assumption) | exact E0.out _ ⟨rfl, rfl, rfl, Nat.le_refl _, fun _ _ => rfl⟩)
    (first
      | (go_at_call 17; have _h := hB3; refine (HC3.out _ hB3).mono ?_; rintro e x4 ⟨rfl, hb4⟩; have hB4 : Below Wh.heap.size Wh x4 := hB3.trans (hb4.mono hB3.size))
      | (go_at_call 17; have _h := hB2; refine (HC2.out _ hB2).mono ?_; rintro e x3 ⟨rfl, hb3⟩; have hB3 : Below Wh.heap.size Wh x3 := hB2.trans (hb3.mono hB2.size))
      | (go_at_call 17; have _h := hB1; refine (HC1.out _ hB1).mono ?_; rintro e x2 ⟨rfl, hb2⟩; have hB2 : Below Wh.heap.size Wh x2 := hB1.trans (hb2.mono hB1.size))
      | (go_at_call 18; refine (HS1.out Wh.drew hB00).mono ?_; rintro e x1 ⟨rfl, hb1⟩; have hB1 : Below Wh.heap.size Wh x1 := ⟨hb1.os, hb1.tape, hb1.output, hb1.size, hb1.block⟩))
  have hT := hT.trans (hB4.mono hT.size)
  have ka := ka.below hB4
  have kb := kb.below hB4
  have kc := kc.below hB4
  have kd := kd.below hB4
  have ke := ke.below hB4
  have kf := kf.below hB4
  have kg := kg.below hB4
  have kh := kh.below hB4
  have kb0 := kb.c0
  have kb1 := kb.c1
  have kc0 := kc.c0
  have kc1 := kc.c1
  have fin : ∀ (e : Ending) (W : World), e = .returned (.bool true) → Below w.heap.size w W → (e = .returned (.bool true) ∧ Below w.heap.size w W) := fun _ _ h1 h2 => ⟨h1, h2⟩
  clear fin hwn hwm
  by_cases p : 0 < N
  · go_wp2_with fail
    go_ret
    exact ⟨rfl, hT⟩
  · have hxy : x ≤ y := cmp_le.1 (by rw [HN.out]; omega)
    have HXY := Lib.hid hxy; clear hxy
    go_wp2_with fail
    clear kb0 kb1 kc0 kc1
    (with_reducible refine (compare_any _ _ _ _ _ kb.bv kc.bv (up HKb.out (by decide)) (up HKc.out (by decide))).mono ?_)
    rintro e y1 ⟨rfl, hb9⟩
    have hT := hT.trans (hb9.mono hT.size)
    have ka := ka.below hb9
    have kc := kc.below hb9
    have ka0 := ka.c0
    have ka1 := ka.c1
    have kc0 := kc.c0
    have kc1 := kc.c1
    have hyz : Lib.compareInt y z = 1 ∨ (y ≤ z ∧ (Lib.compareInt y z = -1 ∨ Lib.compareInt y z = 0)) := by
      rcases cmp_cases y z with ⟨h, e⟩ | ⟨h, e⟩ | ⟨h, e⟩
      · exact .inr ⟨by omega, .inl e⟩
      · exact .inr ⟨by omega, .inr e⟩
      · exact .inl e
    rcases hyz with hq | ⟨hle, hq⟩
    · rw [hq]
      go_wp2_with fail
      go_ret
      exact ⟨rfl, hT⟩
    · have hxz : Lib.compareInt x z = -1 ∨ Lib.compareInt x z = 0 := by
        have := HXY.out
        rcases cmp_cases x z with ⟨h, e⟩ | ⟨h, e⟩ | ⟨h, e⟩
        · exact .inl e
        · exact .inr e
        · omega
      have HXZ := Lib.hid hxz; clear hxz hle
      rcases hq with hq | hq
      all_goals
        rw [hq]
        go_wp2_with fail
        (with_reducible refine (compare_any _ _ _ _ _ ka.bv kc.bv (up HKa.out (by decide)) (up HKc.out (by decide))).mono ?_)
        rintro e y2 ⟨rfl, hb9⟩
        have hT := hT.trans (hb9.mono hT.size)
        rcases HXZ.out with hq2 | hq2
        all_goals
          rw [hq2]
          go_wp2_with fail
          go_ret
          exact ⟨rfl, hT⟩

end Go.Proofs.YtofndidngjglmaaDoor
