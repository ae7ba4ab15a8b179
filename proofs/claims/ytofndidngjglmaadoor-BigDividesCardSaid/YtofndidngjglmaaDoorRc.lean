/- Walks: the law on division. Printed by a program. -/
import Derived.Test.YtofndidngjglmaaDoorZo
namespace Go.Proofs.YtofndidngjglmaaDoor
open Go.RowKit

set_option maxRecDepth 100000 in
set_option maxHeartbeats 8000000 in
theorem divides_any (s1 s2 : Int) (l1 l2 : List Int) (A1 A2 : Option Addr) (n1 c1 n2 c2 : Nat) (w : World) (ht : TB w) (h1 : Ar w s1 l1 A1 n1 c1) (h2 : Ar w s2 l2 A2 n2 c2) :
    Calls Tryd.prog 5 #[.agg #[.int .i64 s1, .slice A1 n1 c1], .agg #[.int .i64 s2, .slice A2 n2 c2]] w fun e w' => e = .returned (.bool true) ∧ Below w.heap.size w w' := by
  have HT := Lib.hid ht; clear ht
  go_enter Tryd.func5, Tryd.ntmps5
  go_wp2_with fail
  obtain ⟨W0, hW, hbx, q1, q2⟩ := abox2 h1 h2
  rw [← hW]
  clear hW h1 h2
  have hT := hbx
  (with_reducible refine (small_any _ (HT.out.below hT)).mono ?_)
  rintro e v0 ⟨rfl, hb⟩
  have hT := hT.trans (hb.mono hT.size)
  have q1 := q1.below hb
  have q2 := q2.below hb
  have a0 := q1.c0
  have a1 := q1.c1
  go_wp2_with fail
  clear a0 a1
  by_cases hcf1 : n1 ≤ 40
  rotate_left
  · refine (q1.ar.few 40 false (by simp; omega)).mono ?_
    rintro e v ⟨rfl, hb⟩
    go_wp2_with fail
    go_ret
    exact ⟨rfl, hT.trans (hb.mono hT.size)⟩
  refine (q1.ar.few 40 true (by simp; omega)).mono ?_
  rintro e vf1 ⟨rfl, hb⟩
  have hT := hT.trans (hb.mono hT.size)
  have q1 := q1.below hb
  have q2 := q2.below hb
  have HCf1 := Lib.hid hcf1; clear hcf1
  have a0 := q2.c0
  have a1 := q2.c1
  go_wp2_with fail
  clear a0 a1
  by_cases hcf2 : n2 ≤ 40
  rotate_left
  · refine (q2.ar.few 40 false (by simp; omega)).mono ?_
    rintro e v ⟨rfl, hb⟩
    go_wp2_with fail
    go_ret
    exact ⟨rfl, hT.trans (hb.mono hT.size)⟩
  refine (q2.ar.few 40 true (by simp; omega)).mono ?_
  rintro e vf2 ⟨rfl, hb⟩
  have hT := hT.trans (hb.mono hT.size)
  have q1 := q1.below hb
  have q2 := q2.below hb
  have HCf2 := Lib.hid hcf2; clear hcf2
  have a0 := q1.c0
  have a1 := q1.c1
  go_wp2_with fail
  clear a0 a1
  by_cases hcr1 : RightP s1 l1
  rotate_left
  · refine (q1.ar.right false (by simp [hcr1])).mono ?_
    rintro e v ⟨rfl, hb⟩
    go_wp2_with fail
    go_ret
    exact ⟨rfl, hT.trans (hb.mono hT.size)⟩
  refine (q1.ar.right true (by simp [hcr1])).mono ?_
  rintro e vr1 ⟨rfl, hb⟩
  have hT := hT.trans (hb.mono hT.size)
  have q1 := q1.below hb
  have q2 := q2.below hb
  have HCr1 := Lib.hid hcr1; clear hcr1
  have a0 := q2.c0
  have a1 := q2.c1
  go_wp2_with fail
  clear a0 a1
  by_cases hcr2 : RightP s2 l2
  rotate_left
  · refine (q2.ar.right false (by simp [hcr2])).mono ?_
    rintro e v ⟨rfl, hb⟩
    go_wp2_with fail
    go_ret
    exact ⟨rfl, hT.trans (hb.mono hT.size)⟩
  refine (q2.ar.right true (by simp [hcr2])).mono ?_
  rintro e vr2 ⟨rfl, hb⟩
  have hT := hT.trans (hb.mono hT.size)
  have q1 := q1.below hb
  have q2 := q2.below hb
  have HCr2 := Lib.hid hcr2; clear hcr2
  obtain ⟨x, ka, hsa, hka⟩ := q1.bx HCr1.out
  have hka := hka 40 HCf1.out
  have HKa := Lib.hid hka; clear hka
  clear q1 HCr1 HCf1
  have HSa := Lib.hid hsa; clear hsa
  obtain ⟨y, kb, hsb, hkb⟩ := q2.bx HCr2.out
  have hkb := hkb 40 HCf2.out
  have HKb := Lib.hid hkb; clear hkb
  clear q2 HCr2 HCf2
  have HSb := Lib.hid hsb; clear hsb
  have ka0 := ka.c0
  have ka1 := ka.c1
  have kb0 := kb.c0
  have kb1 := kb.c1
  go_wp2_with fail
  clear ka0 ka1 kb0 kb1
  by_cases hy0 : y = 0
  · subst hy0
    have hs2 : s2 = 0 := kb.s0
    subst hs2
    (with_reducible refine (div_zero _ _ _ _ ka.bv kb.bv (up HKa.out (by decide))).mono ?_)
    rintro e u1 ⟨rfl, hb9⟩
    have hT := hT.trans (hb9.mono hT.size)
    have ka := ka.below hb9
    have kb := kb.below hb9
    have hrq : BO u1 u1.heap.size (.agg #[.int .i64 0, .slice none 0 0]) 0 := BO.zero _ _
    have kbz := kb.below (((Below.refl _ u1).alloc (Nat.le_refl _) (.cells #[.int .i64 0, .slice none 0 0] 24)).alloc (by simp) (.cells #[.int .i64 0, .slice none 0 0] 24))
    have kbz0 := kbz.c0
    have kbz1 := kbz.c1
    go_wp2_with fail
    clear kbz0 kbz1 kbz
    obtain ⟨Wq, hW, hbx, kq, kr⟩ := box2 hrq hrq
    rw [← hW]
    clear hW
    have hT := hT.trans (hbx.mono hT.size)
    have ka := ka.below hbx
    have kb := kb.below hbx
    (with_reducible refine (same_any _ _ _ _ _ kq.bv (BV.zero _ _)).mono ?_)
    rintro e u2 ⟨rfl, hb9⟩
    have hT := hT.trans (hb9.mono hT.size)
    have ka := ka.below hb9
    have kb := kb.below hb9
    have kq := kq.below hb9
    have kr := kr.below hb9
    rw [show decide ((0 : Int) = 0) = true from rfl]
    have kr0 := kr.c0
    have kr1 := kr.c1
    go_wp2_with fail
    clear kr0 kr1
    (with_reducible refine (same_any _ _ _ _ _ kr.bv (BV.zero _ _)).mono ?_)
    rintro e u3 ⟨rfl, hb9⟩
    have hT := hT.trans (hb9.mono hT.size)
    have ka := ka.below hb9
    have kb := kb.below hb9
    have kq := kq.below hb9
    have kr := kr.below hb9
    rw [show decide ((0 : Int) = 0) = true from rfl]
    go_wp2_with fail
    go_ret
    exact ⟨rfl, hT⟩
  have HY0 := Lib.hid hy0; clear hy0
  (with_reducible refine (div_any _ _ _ _ _ ka.bv kb.bv (up HKa.out (by decide)) (up HKb.out (by decide)) HY0.out).mono ?_)
  rintro e u1 ⟨rq, rr, q, r, rfl, hrq, hrr, hqr, hb9⟩
  have hT := hT.trans (hb9.mono hT.size)
  have ka := ka.below hb9
  have kb := kb.below hb9
  have HQR := Lib.hid hqr; clear hqr
  obtain ⟨sq, Aq, nq, cq, rfl⟩ := hrq.form
  obtain ⟨sr, Ar, nr, cr, rfl⟩ := hrr.form
  have hkq : ab q < pw 40 := by have := HQR.out.2.2.2; have := HKa.out; omega
  have HKq := Lib.hid hkq; clear hkq
  have hkr : ab r < pw 40 := by have := HQR.out.2.2.1; have := HKb.out; omega
  have HKr := Lib.hid hkr; clear hkr
  have hsb : (s2 == 0) = false := by
    have h1 := HSb.out
    have h2 := HY0.out
    rw [h1]
    unfold sgn
    split <;> (try split) <;> simp <;> omega
  have kbz := kb.below (((Below.refl _ u1).alloc (Nat.le_refl _) (.cells #[.int .i64 sq, .slice Aq nq cq] 24)).alloc (by simp) (.cells #[.int .i64 sr, .slice Ar nr cr] 24))
  have kbz0 := kbz.c0
  have kbz1 := kbz.c1
  go_wp2_with fail
  clear kbz0 kbz1
  clear kbz
  obtain ⟨Wq, hW, hbx, kq, kr⟩ := box2 hrq hrr
  rw [← hW]
  clear hW
  have hT := hT.trans (hbx.mono hT.size)
  have ka := ka.below hbx
  have kb := kb.below hbx
  have hkp : ab (q * y) < pw 41 := by
    have h1 := HQR.out.1
    have h2 : q * y = x - r := by omega
    rw [h2]
    exact ab_sub_lt HKa.out HKr.out (by decide) (by decide)
  have HKp := Lib.hid hkp; clear hkp
  have hfp := fits (up HKp.out (by decide))
  have HFp := Lib.hid hfp; clear hfp
  (with_reducible refine (mul_any _ _ _ _ _ kq.bv kb.bv (up HKq.out (by decide)) (up HKb.out (by decide))).mono ?_)
  rintro e u2 ⟨rp, rfl, hrp, hb9⟩
  have hT := hT.trans (hb9.mono hT.size)
  have ka := ka.below hb9
  have kb := kb.below hb9
  have kq := kq.below hb9
  have kr := kr.below hb9
  rw [HFp.out.1]
  rw [HFp.out.2] at hrp
  obtain ⟨sp, Ap, np, cp, rfl⟩ := hrp.form
  have krz := kr.below ((Below.refl _ u2).alloc (Nat.le_refl _) (.cells #[.int .i64 sp, .slice Ap np cp] 24))
  have krz0 := krz.c0
  have krz1 := krz.c1
  go_wp2_with fail
  clear krz0 krz1
  clear krz
  obtain ⟨Wp, hW, hbx, kp⟩ := box1 hrp
  rw [← hW]
  clear hW
  have hT := hT.trans (hbx.mono hT.size)
  have ka := ka.below hbx
  have kb := kb.below hbx
  have kq := kq.below hbx
  have kr := kr.below hbx
  have hx : q * y + r = x := HQR.out.1.symm
  have HX := Lib.hid hx; clear hx
  have hfs := fits (up HKa.out (by decide))
  have HFs := Lib.hid hfs; clear hfs
  (with_reducible refine (add_any _ _ _ _ _ kp.bv kr.bv (up HKp.out (by decide)) (up HKr.out (by decide))).mono ?_)
  rw [HX.out]
  rintro e u3 ⟨rs, rfl, hrs, hb9⟩
  have hT := hT.trans (hb9.mono hT.size)
  have ka := ka.below hb9
  have kb := kb.below hb9
  have kq := kq.below hb9
  have kr := kr.below hb9
  have kp := kp.below hb9
  rw [HFs.out.1]
  rw [HFs.out.2] at hrs
  obtain ⟨ss, As, ns, cs, rfl⟩ := hrs.form
  have kqz := kq.below ((Below.refl _ u3).alloc (Nat.le_refl _) (.cells #[.int .i64 ss, .slice As ns cs] 24))
  have kqz0 := kqz.c0
  have kqz1 := kqz.c1
  go_wp2_with fail
  clear kqz0 kqz1
  clear kqz
  obtain ⟨Ws, hW, hbx, ks⟩ := box1 hrs
  rw [← hW]
  clear hW
  have hT := hT.trans (hbx.mono hT.size)
  have ka := ka.below hbx
  have kb := kb.below hbx
  have kq := kq.below hbx
  have kr := kr.below hbx
  have kp := kp.below hbx
  (with_reducible refine (right_yes _ _ _ kq.bv (up HKq.out (by decide))).mono ?_)
  rintro e u4 ⟨rfl, hb9⟩
  have hT := hT.trans (hb9.mono hT.size)
  have ka := ka.below hb9
  have kb := kb.below hb9
  have kq := kq.below hb9
  have kr := kr.below hb9
  have kp := kp.below hb9
  have ks := ks.below hb9
  have kr0 := kr.c0
  have kr1 := kr.c1
  go_wp2_with fail
  clear kr0 kr1
  (with_reducible refine (right_yes _ _ _ kr.bv (up HKr.out (by decide))).mono ?_)
  rintro e u5 ⟨rfl, hb9⟩
  have hT := hT.trans (hb9.mono hT.size)
  have ka := ka.below hb9
  have kb := kb.below hb9
  have kq := kq.below hb9
  have kr := kr.below hb9
  have kp := kp.below hb9
  have ks := ks.below hb9
  have ks0 := ks.c0
  have ks1 := ks.c1
  have ka0 := ka.c0
  have ka1 := ka.c1
  go_wp2_with fail
  clear ks0 ks1 ka0 ka1
  (with_reducible refine (same_any _ _ _ _ _ ks.bv ka.bv).mono ?_)
  rintro e u6 ⟨rfl, hb9⟩
  have hT := hT.trans (hb9.mono hT.size)
  have ka := ka.below hb9
  have kb := kb.below hb9
  have kq := kq.below hb9
  have kr := kr.below hb9
  have kp := kp.below hb9
  have ks := ks.below hb9
  rw [show decide (x = x) = true from decide_eq_true rfl]
  clear kq kp ks ka
  have kr0 := kr.c0
  have kr1 := kr.c1
  have kb0 := kb.c0
  have kb1 := kb.c1
  go_wp2_with fail
  clear kr0 kr1 kb0 kb1
  (with_reducible refine (compare_any _ _ _ _ _ kr.bv kb.bv (up HKr.out (by decide)) (up HKb.out (by decide))).mono ?_)
  rintro e u7 ⟨rfl, hb9⟩
  have hT := hT.trans (hb9.mono hT.size)
  have kb := kb.below hb9
  have kr := kr.below hb9
  have hcase : (s2 = 1 ∧ Lib.compareInt r y = -1 ∧ (sr = 0 ∨ sr = 1)) ∨ (s2 = -1 ∧ Lib.compareInt r y = 1 ∧ (sr = 0 ∨ sr = -1)) := by
    have h1 := HSb.out
    have h2 := kr.sg
    have h3 := HY0.out
    obtain ⟨_, h4, h5, _⟩ := HQR.out
    rw [h1, h2]
    rcases Int.lt_trichotomy y 0 with h | h | h
    · refine .inr ⟨sgn_of_neg h, ?_, ?_⟩
      · rcases cmp_cases r y with ⟨h', e⟩ | ⟨h', e⟩ | ⟨h', e⟩
        · unfold ab at h5; omega
        · subst h'; omega
        · exact e
      · rcases h4 with h4 | h4
        · subst h4; exact .inl rfl
        · rw [h4]; exact .inr (sgn_of_neg h)
    · omega
    · refine .inl ⟨sgn_pos h, ?_, ?_⟩
      · rcases cmp_cases r y with ⟨h', e⟩ | ⟨h', e⟩ | ⟨h', e⟩
        · exact e
        · subst h'; omega
        · unfold ab at h5; omega
      · rcases h4 with h4 | h4
        · subst h4; exact .inl rfl
        · rw [h4]; exact .inr (sgn_pos h)
  rcases hcase with ⟨hs, hc, hr⟩ | ⟨hs, hc, hr⟩
  · rw [hc]
    subst hs
    have hkr0 := kr.c0
    have hkb0 := kb.c0
    rcases hr with rfl | rfl
    all_goals
      go_wp2_with fail
      go_ret
      exact ⟨rfl, hT⟩
  · rw [hc]
    subst hs
    have hkr0 := kr.c0
    have hkr1 := kr.c1
    have hkb0 := kb.c0
    have hkb1 := kb.c1
    rcases hr with rfl | rfl
    all_goals
      go_wp2_with fail
      clear hkr0 hkr1 hkb0 hkb1
      (with_reducible refine (compare_any _ _ _ _ _ kr.bv kb.bv (up HKr.out (by decide)) (up HKb.out (by decide))).mono ?_)
      rintro e y1 ⟨rfl, hb9⟩
      have hT := hT.trans (hb9.mono hT.size)
      have kr := kr.below hb9
      have kb := kb.below hb9
      have hkr0 := kr.c0
      have hkb0 := kb.c0
      rw [hc]
      go_wp2_with fail
      go_ret
      exact ⟨rfl, hT⟩

end Go.Proofs.YtofndidngjglmaaDoor
