/- Walks: the law on the greatest common divisor (1). Printed by a program. -/
import Derived.Test.YtofndidngjglmaaDoorZq
namespace Go.Proofs.YtofndidngjglmaaDoor
open Go.RowKit

set_option maxRecDepth 100000 in
set_option maxHeartbeats 8000000 in
theorem gcd_1 (s1 s2 s3 : Int) (l1 l2 l3 : List Int) (A1 A2 A3 : Option Addr) (n1 c1 n2 c2 n3 c3 : Nat) (w : World) (hc1 : s1 = 0) (hc2 : s2 ≠ 0) (ht : TB w) (h1 : Ar w s1 l1 A1 n1 c1) (h2 : Ar w s2 l2 A2 n2 c2) (h3 : Ar w s3 l3 A3 n3 c3) :
    Calls Tryd.prog 6 #[.agg #[.int .i64 s1, .slice A1 n1 c1], .agg #[.int .i64 s2, .slice A2 n2 c2], .agg #[.int .i64 s3, .slice A3 n3 c3]] w fun e w' => e = .returned (.bool true) ∧ Below w.heap.size w w' := by
  have HT := Lib.hid ht; clear ht
  have HC1 := Lib.hid hc1; clear hc1
  have HC2 := Lib.hid hc2; clear hc2
  go_enter Tryd.func6, Tryd.ntmps6
  go_wp2_with fail
  obtain ⟨W0, hW, hbx, q1, q2, q3⟩ := abox3 h1 h2 h3
  rw [← hW]
  clear hW h1 h2 h3
  have hT := hbx
  (with_reducible refine (small_any _ (HT.out.below hT)).mono ?_)
  rintro e v0 ⟨rfl, hb⟩
  have hT := hT.trans (hb.mono hT.size)
  have q1 := q1.below hb
  have q2 := q2.below hb
  have q3 := q3.below hb
  have a0 := q1.c0
  have a1 := q1.c1
  go_wp2_with fail
  clear a0 a1
  by_cases hcf1 : n1 ≤ 12
  rotate_left
  · refine (q1.ar.few 12 false (by simp; omega)).mono ?_
    rintro e v ⟨rfl, hb⟩
    go_wp2_with fail
    go_ret
    exact ⟨rfl, hT.trans (hb.mono hT.size)⟩
  refine (q1.ar.few 12 true (by simp; omega)).mono ?_
  rintro e vf1 ⟨rfl, hb⟩
  have hT := hT.trans (hb.mono hT.size)
  have q1 := q1.below hb
  have q2 := q2.below hb
  have q3 := q3.below hb
  have HCf1 := Lib.hid hcf1; clear hcf1
  have a0 := q2.c0
  have a1 := q2.c1
  go_wp2_with fail
  clear a0 a1
  by_cases hcf2 : n2 ≤ 12
  rotate_left
  · refine (q2.ar.few 12 false (by simp; omega)).mono ?_
    rintro e v ⟨rfl, hb⟩
    go_wp2_with fail
    go_ret
    exact ⟨rfl, hT.trans (hb.mono hT.size)⟩
  refine (q2.ar.few 12 true (by simp; omega)).mono ?_
  rintro e vf2 ⟨rfl, hb⟩
  have hT := hT.trans (hb.mono hT.size)
  have q1 := q1.below hb
  have q2 := q2.below hb
  have q3 := q3.below hb
  have HCf2 := Lib.hid hcf2; clear hcf2
  have a0 := q3.c0
  have a1 := q3.c1
  go_wp2_with fail
  clear a0 a1
  by_cases hcf3 : n3 ≤ 4
  rotate_left
  · refine (q3.ar.few 4 false (by simp; omega)).mono ?_
    rintro e v ⟨rfl, hb⟩
    go_wp2_with fail
    go_ret
    exact ⟨rfl, hT.trans (hb.mono hT.size)⟩
  refine (q3.ar.few 4 true (by simp; omega)).mono ?_
  rintro e vf3 ⟨rfl, hb⟩
  have hT := hT.trans (hb.mono hT.size)
  have q1 := q1.below hb
  have q2 := q2.below hb
  have q3 := q3.below hb
  have HCf3 := Lib.hid hcf3; clear hcf3
  have a0 := q1.c0
  have a1 := q1.c1
  go_wp2_with fail
  clear a0 a1
  by_cases hcr1 : RightP s1 l1
  rotate_left
  · refine (q1.ar.right false (by simp [hcr1])).mono ?_
    rintro e v ⟨rfl, hb⟩
    go_wp2_with fail
    go_ret
    exact ⟨rfl, hT.trans (hb.mono hT.size)⟩
  refine (q1.ar.right true (by simp [hcr1])).mono ?_
  rintro e vr1 ⟨rfl, hb⟩
  have hT := hT.trans (hb.mono hT.size)
  have q1 := q1.below hb
  have q2 := q2.below hb
  have q3 := q3.below hb
  have HCr1 := Lib.hid hcr1; clear hcr1
  have a0 := q2.c0
  have a1 := q2.c1
  go_wp2_with fail
  clear a0 a1
  by_cases hcr2 : RightP s2 l2
  rotate_left
  · refine (q2.ar.right false (by simp [hcr2])).mono ?_
    rintro e v ⟨rfl, hb⟩
    go_wp2_with fail
    go_ret
    exact ⟨rfl, hT.trans (hb.mono hT.size)⟩
  refine (q2.ar.right true (by simp [hcr2])).mono ?_
  rintro e vr2 ⟨rfl, hb⟩
  have hT := hT.trans (hb.mono hT.size)
  have q1 := q1.below hb
  have q2 := q2.below hb
  have q3 := q3.below hb
  have HCr2 := Lib.hid hcr2; clear hcr2
  have a0 := q3.c0
  have a1 := q3.c1
  go_wp2_with fail
  clear a0 a1
  by_cases hcr3 : RightP s3 l3
  rotate_left
  · refine (q3.ar.right false (by simp [hcr3])).mono ?_
    rintro e v ⟨rfl, hb⟩
    go_wp2_with fail
    go_ret
    exact ⟨rfl, hT.trans (hb.mono hT.size)⟩
  refine (q3.ar.right true (by simp [hcr3])).mono ?_
  rintro e vr3 ⟨rfl, hb⟩
  have hT := hT.trans (hb.mono hT.size)
  have q1 := q1.below hb
  have q2 := q2.below hb
  have q3 := q3.below hb
  have HCr3 := Lib.hid hcr3; clear hcr3
  obtain ⟨x, ka, hsa, hka⟩ := q1.bx HCr1.out
  have hka := hka 12 HCf1.out
  have HKa := Lib.hid hka; clear hka
  clear q1 HCr1 HCf1
  have HSa := Lib.hid hsa; clear hsa
  obtain ⟨y, kb, hsb, hkb⟩ := q2.bx HCr2.out
  have hkb := hkb 12 HCf2.out
  have HKb := Lib.hid hkb; clear hkb
  clear q2 HCr2 HCf2
  have HSb := Lib.hid hsb; clear hsb
  obtain ⟨z, kc, hsc, hkc⟩ := q3.bx HCr3.out
  have hkc := hkc 4 HCf3.out
  have HKc := Lib.hid hkc; clear hkc
  clear q3 HCr3 HCf3
  have HSc := Lib.hid hsc; clear hsc
  have hs1 := HC1.out
  subst hs1
  have hx0 : x = 0 := sgn_eq_zero HSa.out.symm
  subst hx0
  have hs2 : (s2 == 0) = false := by simpa using HC2.out
  have hy0 : y ≠ 0 := fun h => HC2.out (by rw [HSb.out, h]; rfl)
  have HY0 := Lib.hid hy0; clear hy0
  obtain ⟨d, hd⟩ : ∃ d, ((Int.gcd 0 y : Nat) : Int) = d := ⟨_, rfl⟩
  have hdp : 0 < d := by rw [← hd]; exact gcd_pos (.inr HY0.out)
  have hsd : sgn d = 1 := sgn_pos hdp
  have HDP := Lib.hid hdp; clear hdp
  have hkg : ab d < pw 12 := by rw [← hd]; exact gcd_lt HKa.out HKb.out
  have HKg := Lib.hid hkg; clear hkg
  have HD := Lib.hid hd; clear hd
  have HSD := Lib.hid hsd; clear hsd
  have ka0 := ka.c0
  have ka1 := ka.c1
  have kb0 := kb.c0
  have kb1 := kb.c1
  go_wp2_with fail
  clear ka0 ka1 kb0 kb1
  (with_reducible refine (gcd_any _ _ _ _ _ ka.bv kb.bv (up HKa.out (by decide)) (up HKb.out (by decide))).mono ?_)
  rintro e u1 ⟨rg, rfl, hrg, hb9⟩
  have hT := hT.trans (hb9.mono hT.size)
  have ka := ka.below hb9
  have kb := kb.below hb9
  have kc := kc.below hb9
  rw [HD.out] at hrg
  obtain ⟨sg, Ag, ng, cg, rfl⟩ := hrg.form
  go_upto_region 5 with fail
  obtain ⟨Wg, hW, hbx, kg⟩ := box1 hrg
  rw [← hW]
  clear hW
  have hT := hT.trans (hbx.mono hT.size)
  have ka := ka.below hbx
  have kb := kb.below hbx
  have kc := kc.below hbx
  have e0 : ∀ W' : World, Below Wg.heap.size Wg W' → W'.cell? ⟨w.heap.size + 1, 0, none⟩ = some (.int .i64 s2) ∧ W'.cell? ⟨w.heap.size + 1, 1, none⟩ = some (.slice A2 n2 c2) ∧ W'.cell? ⟨w.heap.size, 0, none⟩ = some (.int .i64 0) ∧ W'.cell? ⟨w.heap.size, 1, none⟩ = some (.slice A1 n1 c1) ∧ Below Wg.heap.size Wg W' := fun W' hW =>
    ⟨(kb.below hW).c0, (kb.below hW).c1, (ka.below hW).c0, (ka.below hW).c1, hW⟩
  have E0 := Lib.hid e0; clear e0
  have hB00 : Below Wg.heap.size Wg Wg.drew := (Below.refl _ _).drew
  have hng := fun (w' : World) (hb : Below Wg.heap.size Wg w') => neg_any y _ w' (kb.below hb).bv (up HKb.out (by decide))
  have HNG := Lib.hid hng; clear hng
  have hml := fun (w' : World) (hb : Below Wg.heap.size Wg w') r (h : BV w' w'.heap.size r (-y)) => gcd_any (-y) 0 r _ w' h (ka.below hb).bv (by rw [ab_neg]; exact (up HKb.out (by decide))) (up HKa.out (by decide))
  unfold GcdP at hml
  rw [gcd_neg, HD.out] at hml
  have HML := Lib.hid hml; clear hml
  have hTs := hT.size
  go_upto_region 5 with fail
  go_cut [10, 11] (fun p e wx => ∃ (g : Nat) (s : Int) (A : Option Addr) (n c : Nat), p = .pointer (some ⟨g, 0, none⟩) ∧ e = .int .i64 0 ∧ Bx wx g s A n c d ∧ Below Wg.heap.size Wg wx)
  case first =>
    go_region_held3 (fun W' => W'.cell? ⟨w.heap.size + 1, 0, none⟩ = some (.int .i64 s2) ∧ W'.cell? ⟨w.heap.size + 1, 1, none⟩ = some (.slice A2 n2 c2) ∧ W'.cell? ⟨w.heap.size, 0, none⟩ = some (.int .i64 0) ∧ W'.cell? ⟨w.heap.size, 1, none⟩ = some (.slice A1 n1 c1) ∧ Below Wg.heap.size Wg W')
      (first | exact E0.out _ (by assumption) | exact E0.out _ ⟨rfl, rfl, rfl, Nat.le_refl _, fun _ _ => rfl⟩ | exact E0.out _ (below_new hB5 _) | exact E0.out _ (below_st hB5 hge _ _) | exact E0.out _ (below_new hB4 _) | exact E0.out _ (below_new hB00 _))
      (first
        | (go_at_call 20; have _h := hB4; (first | refine (HML.out _ hB4 _ hq1.bv).mono ?_ | refine (HML.out _ (below_new hB4 _) _ (hq1.bv.new _)).mono ?_); rintro e u3 ⟨rh, rfl, hrh, hb5⟩; have hB5 : Below Wg.heap.size Wg u3 := (by first | exact hB4.trans (hb5.mono hB4.size) | exact (below_new hB4 _).trans (hb5.mono (below_new hB4 _).size)); obtain ⟨sh, Ah, nh, ch, rfl⟩ := hrh.form; (try (have hk5 := blk_run hb5; have hge := hB4.size; have hlt : u2.heap.size < (u2.alloc (.cells #[.int .i64 0, .slice none 0 0] 24)).heap.size := (by simp); have z0 := hk5.cell 0; have z1 := hk5.cell 1; have y0 := hk5.frozen 0; have y1 := hk5.frozen 1)); (try (have hk5 := hk4.below hb5 hk4.lt; have hge := Nat.le_refl Wg.heap.size; have hlt := hk4.lt; have z0 := hk5.cell 0; have z1 := hk5.cell 1; have y0 := hk5.frozen 0; have y1 := hk5.frozen 1)))
        | (go_at_call 21; (first | refine (HNG.out _ hB00).mono ?_ | refine (HNG.out _ (below_new hB00 _)).mono ?_); rintro e u2 ⟨r1, rfl, hq1, hb4⟩; have hB4 : Below Wg.heap.size Wg u2 := (by first | exact ⟨hb4.os, hb4.tape, hb4.output, hb4.size, hb4.block⟩ | exact (below_new hB00 _).trans (hb4.mono (below_new hB00 _).size)); (try (have hk4 : Blk u2 Wg.heap.size 24 #[.int .i64 0, .slice none 0 0] := blk_run (b := Wg.drew) hb4))))
    all_goals
      go_wp2_with fail
      go_meet
      first
        | exact ⟨_, _, _, _, _, rfl, rfl, box_new hrh, below_new hB5 _⟩
        | exact ⟨_, _, _, _, _, rfl, rfl, box_st hk5 hrh hlt, below_st hB5 hge _ _⟩
  obtain ⟨gh, sh, Ah, nh, ch, rfl, rfl, kh, hb9⟩ := hcut
  clear E0 hB00 HML hTs
  have hT := hT.trans (hb9.mono hT.size)
  have ka := ka.below hb9
  have kb := kb.below hb9
  have kc := kc.below hb9
  have kg := kg.below hb9
  have hsg := kg.sg
  rw [HSD.out] at hsg
  subst hsg
  have kg0 := kg.c0
  have kg1 := kg.c1
  have kh0 := kh.c0
  have kh1 := kh.c1
  go_wp2_with fail
  clear kg0 kg1 kh0 kh1
  (with_reducible refine (same_any _ _ _ _ _ kg.bv kh.bv).mono ?_)
  rintro e u4 ⟨rfl, hb9⟩
  have hT := hT.trans (hb9.mono hT.size)
  have ka := ka.below hb9
  have kb := kb.below hb9
  have kc := kc.below hb9
  have kg := kg.below hb9
  have kh := kh.below hb9
  rw [show decide (d = d) = true from decide_eq_true rfl]
  clear kh
  have hd0 : d ≠ 0 := by have := HDP.out; omega
  have HD0 := Lib.hid hd0; clear hd0
  have ka0 := ka.c0
  have ka1 := ka.c1
  have kb0 := kb.c0
  have kb1 := kb.c1
  have kg0 := kg.c0
  have kg1 := kg.c1
  go_wp2_with fail
  clear ka0 ka1 kb0 kb1 kg0 kg1
  (with_reducible refine (div_any _ _ _ _ _ ka.bv kg.bv (up HKa.out (by decide)) (up HKg.out (by decide)) HD0.out).mono ?_)
  rintro e u5 ⟨ri, rj, iv, jv, rfl, hri, hrj, hqr, hb9⟩
  have hT := hT.trans (hb9.mono hT.size)
  have ka := ka.below hb9
  have kb := kb.below hb9
  have kc := kc.below hb9
  have kg := kg.below hb9
  have HQRj := Lib.hid hqr; clear hqr
  obtain ⟨si, Ai, ni, ci, rfl⟩ := hri.form
  obtain ⟨sj, Aj, nj, cj, rfl⟩ := hrj.form
  have hzj : jv = 0 := qr_dvd HQRj.out (by rw [← HD.out]; exact Int.gcd_dvd_left 0 y)
  subst hzj
  have kbz := kb.below (((Below.refl _ u5).alloc (Nat.le_refl _) (.cells #[.int .i64 si, .slice Ai ni ci] 24)).alloc (by simp) (.cells #[.int .i64 sj, .slice Aj nj cj] 24))
  have kbz0 := kbz.c0
  have kbz1 := kbz.c1
  have kgz := kg.below (((Below.refl _ u5).alloc (Nat.le_refl _) (.cells #[.int .i64 si, .slice Ai ni ci] 24)).alloc (by simp) (.cells #[.int .i64 sj, .slice Aj nj cj] 24))
  have kgz0 := kgz.c0
  have kgz1 := kgz.c1
  go_wp2_with fail
  clear kbz0 kbz1
  clear kbz
  clear kgz0 kgz1
  clear kgz
  obtain ⟨Wi, hW, hbx, ki, kj⟩ := box2 hri hrj
  rw [← hW]
  clear hW
  have hT := hT.trans (hbx.mono hT.size)
  have ka := ka.below hbx
  have kb := kb.below hbx
  have kc := kc.below hbx
  have kg := kg.below hbx
  have hsj := kj.s0
  subst hsj
  clear ki
  clear hs2
  (with_reducible refine (div_any _ _ _ _ _ kb.bv kg.bv (up HKb.out (by decide)) (up HKg.out (by decide)) HD0.out).mono ?_)
  rintro e u6 ⟨rk, rl, kv, lv, rfl, hrk, hrl, hqr, hb9⟩
  have hT := hT.trans (hb9.mono hT.size)
  have ka := ka.below hb9
  have kb := kb.below hb9
  have kc := kc.below hb9
  have kg := kg.below hb9
  have kj := kj.below hb9
  have HQRl := Lib.hid hqr; clear hqr
  obtain ⟨sk, Ak, nk, ck, rfl⟩ := hrk.form
  obtain ⟨sl, Al, nl, cl, rfl⟩ := hrl.form
  have hzl : lv = 0 := qr_dvd HQRl.out (by rw [← HD.out]; exact Int.gcd_dvd_right 0 y)
  subst hzl
  have hsl : sl = 0 := BO.s0 hrl
  subst hsl
  have kjz := kj.below (((Below.refl _ u6).alloc (Nat.le_refl _) (.cells #[.int .i64 sk, .slice Ak nk ck] 24)).alloc (by simp) (.cells #[.int .i64 0, .slice Al nl cl] 24))
  have kjz0 := kjz.c0
  have kjz1 := kjz.c1
  have kaz := ka.below (((Below.refl _ u6).alloc (Nat.le_refl _) (.cells #[.int .i64 sk, .slice Ak nk ck] 24)).alloc (by simp) (.cells #[.int .i64 0, .slice Al nl cl] 24))
  have kaz0 := kaz.c0
  have kaz1 := kaz.c1
  have kbz := kb.below (((Below.refl _ u6).alloc (Nat.le_refl _) (.cells #[.int .i64 sk, .slice Ak nk ck] 24)).alloc (by simp) (.cells #[.int .i64 0, .slice Al nl cl] 24))
  have kbz0 := kbz.c0
  have kbz1 := kbz.c1
  have kcz := kc.below (((Below.refl _ u6).alloc (Nat.le_refl _) (.cells #[.int .i64 sk, .slice Ak nk ck] 24)).alloc (by simp) (.cells #[.int .i64 0, .slice Al nl cl] 24))
  have kcz0 := kcz.c0
  have kcz1 := kcz.c1
  go_wp2_with fail
  clear kjz0 kjz1
  clear kjz
  clear kaz0 kaz1
  clear kaz
  clear kbz0 kbz1
  clear kbz
  clear kcz0 kcz1
  clear kcz
  obtain ⟨Wk, hW, hbx, kk, kl⟩ := box2 hrk hrl
  rw [← hW]
  clear hW
  have hT := hT.trans (hbx.mono hT.size)
  have ka := ka.below hbx
  have kb := kb.below hbx
  have kc := kc.below hbx
  have kg := kg.below hbx
  have kj := kj.below hbx
  clear kj kk kl
  have hkp : ab (0 * z) < pw 16 := ab_mul_lt HKa.out HKc.out rfl
  have HKp := Lib.hid hkp; clear hkp
  have hfp := fits (up HKp.out (by decide))
  have HFp := Lib.hid hfp; clear hfp
  (with_reducible refine (mul_any _ _ _ _ _ ka.bv kc.bv (up HKa.out (by decide)) (up HKc.out (by decide))).mono ?_)
  rintro e u7 ⟨rp, rfl, hrp, hb9⟩
  have hT := hT.trans (hb9.mono hT.size)
  have ka := ka.below hb9
  have kb := kb.below hb9
  have kc := kc.below hb9
  have kg := kg.below hb9
  rw [HFp.out.1]
  rw [HFp.out.2] at hrp
  obtain ⟨sp, Ap, np, cp, rfl⟩ := hrp.form
  have kbz := kb.below ((Below.refl _ u7).alloc (Nat.le_refl _) (.cells #[.int .i64 sp, .slice Ap np cp] 24))
  have kbz0 := kbz.c0
  have kbz1 := kbz.c1
  have kcz := kc.below ((Below.refl _ u7).alloc (Nat.le_refl _) (.cells #[.int .i64 sp, .slice Ap np cp] 24))
  have kcz0 := kcz.c0
  have kcz1 := kcz.c1
  go_wp2_with fail
  clear kbz0 kbz1
  clear kbz
  clear kcz0 kcz1
  clear kcz
  obtain ⟨Wp, hW, hbx, kp⟩ := box1 hrp
  rw [← hW]
  clear hW
  have hT := hT.trans (hbx.mono hT.size)
  have ka := ka.below hbx
  have kb := kb.below hbx
  have kc := kc.below hbx
  have kg := kg.below hbx
  have hkq : ab (y * z) < pw 16 := ab_mul_lt HKb.out HKc.out rfl
  have HKq := Lib.hid hkq; clear hkq
  have hfq := fits (up HKq.out (by decide))
  have HFq := Lib.hid hfq; clear hfq
  (with_reducible refine (mul_any _ _ _ _ _ kb.bv kc.bv (up HKb.out (by decide)) (up HKc.out (by decide))).mono ?_)
  rintro e u8 ⟨rq, rfl, hrq, hb9⟩
  have hT := hT.trans (hb9.mono hT.size)
  have ka := ka.below hb9
  have kb := kb.below hb9
  have kc := kc.below hb9
  have kg := kg.below hb9
  have kp := kp.below hb9
  rw [HFq.out.1]
  rw [HFq.out.2] at hrq
  obtain ⟨sq, Aq, nq, cq, rfl⟩ := hrq.form
  have kpz := kp.below ((Below.refl _ u8).alloc (Nat.le_refl _) (.cells #[.int .i64 sq, .slice Aq nq cq] 24))
  have kpz0 := kpz.c0
  have kpz1 := kpz.c1
  go_wp2_with fail
  clear kpz0 kpz1
  clear kpz
  obtain ⟨Wq, hW, hbx, kq⟩ := box1 hrq
  rw [← hW]
  clear hW
  have hT := hT.trans (hbx.mono hT.size)
  have ka := ka.below hbx
  have kb := kb.below hbx
  have kc := kc.below hbx
  have kg := kg.below hbx
  have kp := kp.below hbx
  clear ka kb
  (with_reducible refine (gcd_any _ _ _ _ _ kp.bv kq.bv (up HKp.out (by decide)) (up HKq.out (by decide))).mono ?_)
  rintro e u9 ⟨rr, rfl, hrr, hb9⟩
  have hT := hT.trans (hb9.mono hT.size)
  have kc := kc.below hb9
  have kg := kg.below hb9
  have kp := kp.below hb9
  have kq := kq.below hb9
  rw [gcd_factor, HD.out] at hrr
  obtain ⟨sr, Ar, nr, cr, rfl⟩ := hrr.form
  have hkr : ab (d * ab z) < pw 16 := by
    rw [ab_mul, show ab (ab z) = ab z from (by unfold ab; omega), ← ab_mul]
    exact ab_mul_lt HKg.out HKc.out rfl
  have HKr := Lib.hid hkr; clear hkr
  have kgz := kg.below ((Below.refl _ u9).alloc (Nat.le_refl _) (.cells #[.int .i64 sr, .slice Ar nr cr] 24))
  have kgz0 := kgz.c0
  have kgz1 := kgz.c1
  have kcz := kc.below ((Below.refl _ u9).alloc (Nat.le_refl _) (.cells #[.int .i64 sr, .slice Ar nr cr] 24))
  have kcz0 := kcz.c0
  have kcz1 := kcz.c1
  go_wp2_with fail
  clear kgz0 kgz1
  clear kgz
  clear kcz0 kcz1
  clear kcz
  obtain ⟨Wr, hW, hbx, kr⟩ := box1 hrr
  rw [← hW]
  clear hW
  have hT := hT.trans (hbx.mono hT.size)
  have kc := kc.below hbx
  have kg := kg.below hbx
  have kp := kp.below hbx
  have kq := kq.below hbx
  clear kp kq
  have hkt : ab (d * z) < pw 16 := ab_mul_lt HKg.out HKc.out rfl
  have HKt := Lib.hid hkt; clear hkt
  have hft := fits (up HKt.out (by decide))
  have HFt := Lib.hid hft; clear hft
  (with_reducible refine (mul_any _ _ _ _ _ kg.bv kc.bv (up HKg.out (by decide)) (up HKc.out (by decide))).mono ?_)
  rintro e u10 ⟨rt, rfl, hrt, hb9⟩
  have hT := hT.trans (hb9.mono hT.size)
  have kc := kc.below hb9
  have kg := kg.below hb9
  have kr := kr.below hb9
  rw [HFt.out.1]
  rw [HFt.out.2] at hrt
  obtain ⟨st, At, nt, ct, rfl⟩ := hrt.form
  clear kg
  have hsc := sgn_bd z
  rw [← HSc.out] at hsc
  have hcc : s3 = -1 ∨ s3 = 0 ∨ s3 = 1 := by omega
  clear hsc
  have HZZ : Hid (s3 = sgn z) := HSc
  clear HSc
  rcases hcc with rfl | rfl | rfl
  · have hzn : z < 0 := sgn_neg_iff HZZ.out
    have HZN := Lib.hid hzn; clear hzn
    have nbc_t := Nb.low kc.bv (Nat.le_refl _)
    have nec_t : w.heap.size + 1 + 1 ≠ u10.heap.size := by have := kc.blk.lt; omega
    have nbr_t := Nb.low kr.bv (Nat.le_refl _)
    have ner_t : u9.heap.size ≠ u10.heap.size := by have := kr.blk.lt; omega
    have get := hT.size
    have kcz := kc.below ((Below.refl _ u10).alloc (Nat.le_refl _) (.cells #[.int .i64 st, .slice At nt ct] 24))
    have kcz0 := kcz.c0
    have kcz1 := kcz.c1
    go_wp2_with fail
    clear kcz0 kcz1
    clear kcz
    obtain ⟨Wt, hW, hbx, kt⟩ := box1 hrt
    rw [← hW]
    clear hW
    have hT := hT.trans (hbx.mono hT.size)
    have kc := kc.below hbx
    have kr := kr.below hbx
    have ltt := kt.blk.lt
    (with_reducible refine (neg_any _ _ _ kt.bv (up HKt.out (by decide))).mono ?_)
    rintro e u11 ⟨rv, rfl, hrv, hb9⟩
    have hT := hT.trans (hb9.mono hT.size)
    have kc := kc.below hb9
    have kr := kr.below hb9
    have kt := kt.below hb9
    have hvz : -(d * z) = d * ab z := by
      have := HZN.out
      rw [show ab z = -z from (by unfold ab; omega), Int.mul_neg]
    rw [hvz] at hrv
    clear hvz
    have HKv := HKr
    obtain ⟨sv, Av, nv, cv, rfl⟩ := hrv.form
    have nbv_t := Nb.high hrv ltt
    clear kc
    have t0 := kt.c0
    have t1 := kt.c1
    have f0 := kt.blk.frozen 0
    have f1 := kt.blk.frozen 1
    have krz := kr.set2 ner_t nbr_t (.int .i64 sv) (.slice Av nv cv)
    have ktz := kt.put hrv.bv nbv_t
    have krz0 := krz.c0
    have krz1 := krz.c1
    have ktz0 := ktz.c0
    have ktz1 := ktz.c1
    go_wp2_with fail
    clear krz0 krz1
    clear ktz0 ktz1
    clear t0 t1 f0 f1
    have kr := krz; clear krz
    have kt := ktz; clear ktz
    have hT := (hT.setCell (p := ⟨_, 0, none⟩) get (.int .i64 sv)).setCell (p := ⟨_, 1, none⟩) get (.slice Av nv cv)
    generalize (u11.setCell ⟨u10.heap.size, 0, none⟩ (.int .i64 sv)).setCell ⟨u10.heap.size, 1, none⟩ (.slice Av nv cv) = Vv at *
    have HKt := HKv
    (with_reducible refine (same_any _ _ _ _ _ kr.bv kt.bv).mono ?_)
    rintro e u12 ⟨rfl, hb9⟩
    have hT := hT.trans (hb9.mono hT.size)
    have kr := kr.below hb9
    have kt := kt.below hb9
    rw [show decide (d * ab z = d * ab z) = true from decide_eq_true rfl]
    go_wp2_with fail
    go_ret
    exact ⟨rfl, hT⟩
  · have hvz : d * z = d * ab z := by
      have : 0 ≤ z := sgn_nonneg_iff (by rw [← HZZ.out]; decide)
      rw [show ab z = z from (by unfold ab; omega)]
    rw [hvz] at hrt
    clear hvz
    have nbc_t := Nb.low kc.bv (Nat.le_refl _)
    have nec_t : w.heap.size + 1 + 1 ≠ u10.heap.size := by have := kc.blk.lt; omega
    have nbr_t := Nb.low kr.bv (Nat.le_refl _)
    have ner_t : u9.heap.size ≠ u10.heap.size := by have := kr.blk.lt; omega
    have get := hT.size
    have krz := kr.below ((Below.refl _ u10).alloc (Nat.le_refl _) (.cells #[.int .i64 st, .slice At nt ct] 24))
    have krz0 := krz.c0
    have krz1 := krz.c1
    have kcz := kc.below ((Below.refl _ u10).alloc (Nat.le_refl _) (.cells #[.int .i64 st, .slice At nt ct] 24))
    have kcz0 := kcz.c0
    have kcz1 := kcz.c1
    go_wp2_with fail
    clear krz0 krz1
    clear krz
    clear kcz0 kcz1
    clear kcz
    obtain ⟨Wt, hW, hbx, kt⟩ := box1 hrt
    rw [← hW]
    clear hW
    have hT := hT.trans (hbx.mono hT.size)
    have kc := kc.below hbx
    have kr := kr.below hbx
    (with_reducible refine (same_any _ _ _ _ _ kr.bv kt.bv).mono ?_)
    rintro e u11 ⟨rfl, hb9⟩
    have hT := hT.trans (hb9.mono hT.size)
    have kc := kc.below hb9
    have kr := kr.below hb9
    have kt := kt.below hb9
    rw [show decide (d * ab z = d * ab z) = true from decide_eq_true rfl]
    go_wp2_with fail
    go_ret
    exact ⟨rfl, hT⟩
  · have hvz : d * z = d * ab z := by
      have : 0 ≤ z := sgn_nonneg_iff (by rw [← HZZ.out]; decide)
      rw [show ab z = z from (by unfold ab; omega)]
    rw [hvz] at hrt
    clear hvz
    have nbc_t := Nb.low kc.bv (Nat.le_refl _)
    have nec_t : w.heap.size + 1 + 1 ≠ u10.heap.size := by have := kc.blk.lt; omega
    have nbr_t := Nb.low kr.bv (Nat.le_refl _)
    have ner_t : u9.heap.size ≠ u10.heap.size := by have := kr.blk.lt; omega
    have get := hT.size
    have krz := kr.below ((Below.refl _ u10).alloc (Nat.le_refl _) (.cells #[.int .i64 st, .slice At nt ct] 24))
    have krz0 := krz.c0
    have krz1 := krz.c1
    have kcz := kc.below ((Below.refl _ u10).alloc (Nat.le_refl _) (.cells #[.int .i64 st, .slice At nt ct] 24))
    have kcz0 := kcz.c0
    have kcz1 := kcz.c1
    go_wp2_with fail
    clear krz0 krz1
    clear krz
    clear kcz0 kcz1
    clear kcz
    obtain ⟨Wt, hW, hbx, kt⟩ := box1 hrt
    rw [← hW]
    clear hW
    have hT := hT.trans (hbx.mono hT.size)
    have kc := kc.below hbx
    have kr := kr.below hbx
    (with_reducible refine (same_any _ _ _ _ _ kr.bv kt.bv).mono ?_)
    rintro e u11 ⟨rfl, hb9⟩
    have hT := hT.trans (hb9.mono hT.size)
    have kc := kc.below hb9
    have kr := kr.below hb9
    have kt := kt.below hb9
    rw [show decide (d * ab z = d * ab z) = true from decide_eq_true rfl]
    go_wp2_with fail
    go_ret
    exact ⟨rfl, hT⟩

end Go.Proofs.YtofndidngjglmaaDoor
