/- Walks: multiply. Printed by a program. Walks: Mul and Div of fractions. Printed by a program. Walks: the reference's Same and Few. -/
import Derived.Test.YtkjpfnbdlbnbkaaGreatDoorXaz

namespace Go.Proofs.YtkjpfnbdlbnbkaaGreatDoor
open Go.RowKit

theorem fboxes2 {w : World} {s1 s2 s3 s4 : Int} {A1 A2 A3 A4 : Option Addr} {n1 d1 n2 d2 n3 d3 n4 d4 : Nat} {p1 q1 p2 q2 : Int} (h1 : FV w w.heap.size s1 A1 n1 d1 s2 A2 n2 d2 p1 q1) (h2 : FV w w.heap.size s3 A3 n3 d3 s4 A4 n4 d4 p2 q2) :
    ∃ W, W = ((w.alloc (.cells #[.int .i64 s1, .slice A1 n1 d1, .int .i64 s2, .slice A2 n2 d2] 43)).alloc (.cells #[.int .i64 s3, .slice A3 n3 d3, .int .i64 s4, .slice A4 n4 d4] 43)).alloc (.cells #[.int .i64 0, .slice none 0 0, .int .i64 0, .slice none 0 0] 43) ∧ Below w.heap.size w W ∧
      Bf 43 W w.heap.size s1 A1 n1 d1 s2 A2 n2 d2 p1 q1 ∧ Bf 43 W (w.heap.size + 1) s3 A3 n3 d3 s4 A4 n4 d4 p2 q2 ∧ Bz W (w.heap.size + 1 + 1) (.int .i64 0) (.slice none 0 0) (.int .i64 0) (.slice none 0 0) := by
  have hb1 : Below w.heap.size w (w.alloc (.cells #[.int .i64 s1, .slice A1 n1 d1, .int .i64 s2, .slice A2 n2 d2] 43)) := (Below.refl _ _).alloc (Nat.le_refl _) _
  have hb2 := hb1.alloc hb1.size (.cells #[.int .i64 s3, .slice A3 n3 d3, .int .i64 s4, .slice A4 n4 d4] 43)
  have hb3 := hb2.alloc hb2.size (.cells #[.int .i64 0, .slice none 0 0, .int .i64 0, .slice none 0 0] 43)
  have k1 := Blk.new w 43 #[.int .i64 s1, .slice A1 n1 d1, .int .i64 s2, .slice A2 n2 d2]
  have k2 := Blk.new (w.alloc (.cells #[.int .i64 s1, .slice A1 n1 d1, .int .i64 s2, .slice A2 n2 d2] 43)) 43 #[.int .i64 s3, .slice A3 n3 d3, .int .i64 s4, .slice A4 n4 d4]
  have k3 := Blk.new ((w.alloc (.cells #[.int .i64 s1, .slice A1 n1 d1, .int .i64 s2, .slice A2 n2 d2] 43)).alloc (.cells #[.int .i64 s3, .slice A3 n3 d3, .int .i64 s4, .slice A4 n4 d4] 43)) 43 #[.int .i64 0, .slice none 0 0, .int .i64 0, .slice none 0 0]
  simp only [World.size_alloc] at k2 k3
  exact ⟨_, rfl, hb3, ⟨(k1.alloc _).alloc _, h1.later hb3⟩, ⟨k2.alloc _, h2.later hb3⟩, ⟨k3⟩⟩

set_option maxRecDepth 100000 in
set_option maxHeartbeats 8000000 in
theorem multiply_fit (s1 s2 s3 s4 : Int) (A1 A2 A3 A4 : Option Addr) (n1 d1 n2 d2 n3 d3 n4 d4 : Nat) (p1 q1 p2 q2 : Int) (w : World) (ha : FV w w.heap.size s1 A1 n1 d1 s2 A2 n2 d2 p1 q1) (hb : FV w w.heap.size s3 A3 n3 d3 s4 A4 n4 d4 p2 q2) (h1 : ab p1 < pw 60) (h2 : ab q1 < pw 60) (h3 : ab p2 < pw 60) (h4 : ab q2 < pw 60) (hf : ab (p1 * p2) < pw 60 ∧ ab (q1 * q2) < pw 60) :
    Calls Tryz.prog 94 #[.agg #[.int .i64 s1, .slice A1 n1 d1, .int .i64 s2, .slice A2 n2 d2], .agg #[.int .i64 s3, .slice A3 n3 d3, .int .i64 s4, .slice A4 n4 d4]] w (NewP (p1 * p2) (q1 * q2) w) := by
  have H1 := Lib.hid h1; clear h1
  have H2 := Lib.hid h2; clear h2
  have H3 := Lib.hid h3; clear h3
  have H4 := Lib.hid h4; clear h4
  obtain ⟨Em, hEm⟩ : ∃ z, fite (p1 * p2) = z := ⟨_, rfl⟩
  obtain ⟨Zm, hZm⟩ : ∃ z, fitz (p1 * p2) = z := ⟨_, rfl⟩
  obtain ⟨En, hEn⟩ : ∃ z, fite (q1 * q2) = z := ⟨_, rfl⟩
  obtain ⟨Zn, hZn⟩ : ∃ z, fitz (q1 * q2) = z := ⟨_, rfl⟩
  have hcs : Em = 0 ∧ En = 0 := ⟨hEm.symm.trans (if_pos hf.1), hEn.symm.trans (if_pos hf.2)⟩
  have hzm : p1 * p2 = Zm := (if_pos hf.1 : fitz (p1 * p2) = p1 * p2).symm.trans hZm
  have hzn : q1 * q2 = Zn := (if_pos hf.2 : fitz (q1 * q2) = q1 * q2).symm.trans hZn
  have hkm : ab Zm < pw 60 := by rw [← hzm]; exact hf.1
  have hkn : ab Zn < pw 60 := by rw [← hzn]; exact hf.2
  have HKm := Lib.hid hkm; clear hkm
  have HKn := Lib.hid hkn; clear hkn
  have HQm := Lib.hid hzm; clear hzm
  have HQn := Lib.hid hzn; clear hzn
  clear hf
  have HEm := Lib.hid hEm; clear hEm
  have HZm := Lib.hid hZm; clear hZm
  have HEn := Lib.hid hEn; clear hEn
  have HZn := Lib.hid hZn; clear hZn
  have HCS := Lib.hid hcs; clear hcs
  go_enter Tryz.func94, Tryz.ntmps94
  go_wp2_with fail
  obtain ⟨W0, hW, hbx, ka, kb, kR⟩ := fboxes2 ha hb
  rw [← hW]
  clear hW ha hb
  have hT := hbx
  have za0 := ka.c0
  have za1 := ka.c1
  have zb0 := kb.c0
  have zb1 := kb.c1
  go_wp2_with fail
  clear za0 za1
  clear zb0 zb1
  have ltm := kR.blk.lt
  (with_reducible refine (mul_any _ _ _ _ _ ka.fv.a kb.fv.a H1.out H3.out).mono ?_)
  rintro e u1 ⟨rm, rfl, hrm, hb9⟩
  have hT := hT.trans (hb9.mono hT.size)
  have ka := ka.below hb9
  have kb := kb.below hb9
  have kR := kR.below hb9
  rw [HEm.out]
  rw [HZm.out] at hrm
  obtain ⟨sm, Am, nm, cm, rfl⟩ := hrm.form
  have kay := ka.below ((Below.refl _ u1).alloc (Nat.le_refl _) (.cells #[.int .i64 sm, .slice Am nm cm] 24))
  have za2y := kay.c2
  have za3y := kay.c3
  have kby := kb.below ((Below.refl _ u1).alloc (Nat.le_refl _) (.cells #[.int .i64 sm, .slice Am nm cm] 24))
  have zb2y := kby.c2
  have zb3y := kby.c3
  go_wp2_with fail
  clear za2y za3y
  clear kay
  clear zb2y zb3y
  clear kby
  obtain ⟨Wm, hW, hbx, km⟩ := box1 hrm
  rw [← hW]
  clear hW
  have hT := hT.trans (hbx.mono hT.size)
  have ka := ka.below hbx
  have kb := kb.below hbx
  have kR := kR.below hbx
  have ltn := kR.blk.lt
  (with_reducible refine (mul_any _ _ _ _ _ ka.fv.b kb.fv.b H2.out H4.out).mono ?_)
  rintro e u2 ⟨rn, rfl, hrn, hb9⟩
  have hT := hT.trans (hb9.mono hT.size)
  have ka := ka.below hb9
  have kb := kb.below hb9
  have kR := kR.below hb9
  have km := km.below hb9
  rw [HEn.out]
  rw [HZn.out] at hrn
  obtain ⟨sn, An, nn, cn, rfl⟩ := hrn.form
  obtain ⟨e1, e2⟩ := HCS.out
  subst e1 e2
  have kmy := km.below ((Below.refl _ u2).alloc (Nat.le_refl _) (.cells #[.int .i64 sn, .slice An nn cn] 24))
  have zm0y := kmy.c0
  have zm1y := kmy.c1
  go_wp2_with fail
  clear zm0y zm1y
  clear kmy
  obtain ⟨Wn, hW, hbx, kn⟩ := box1 hrn
  rw [← hW]
  clear hW
  have hT := hT.trans (hbx.mono hT.size)
  have ka := ka.below hbx
  have kb := kb.below hbx
  have kR := kR.below hbx
  have km := km.below hbx
  have hlt := kR.blk.lt
  (with_reducible refine (new_any _ _ _ _ _ _ _ _ _ _ _ km.bv kn.bv HKm.out HKn.out).mono ?_)
  rintro e u3 ⟨rr, rfl, hrr, hb9⟩
  have hT := hT.trans (hb9.mono hT.size)
  have kR := kR.below hb9
  clear ka kb km kn
  rw [← HQm.out, ← HQn.out] at hrr
  rw [← HQn.out]
  obtain ⟨E, hE⟩ : ∃ E, newE (q1 * q2) = E := ⟨_, rfl⟩
  unfold NewP
  rw [hE]
  have HE := Lib.hid hE; clear hE
  obtain ⟨t1, C1, m1, e1, t2, C2, m2, e2, rfl, g1, g2⟩ := hrr
  have gR : w.heap.size ≤ w.heap.size + 1 + 1 := by omega
  have r0 := kR.blk.cell 0
  have r1 := kR.blk.cell 1
  have r2 := kR.blk.cell 2
  have r3 := kR.blk.cell 3
  have q0' := kR.blk.frozen 0
  have q1' := kR.blk.frozen 1
  have q2' := kR.blk.frozen 2
  have q3' := kR.blk.frozen 3
  simp at r0 r1 r2 r3
  have hbs := kR.blk.set4 (.int .i64 t1) (.slice C1 m1 e1) (.int .i64 t2) (.slice C2 m2 e2)
  have x0 := hbs.cell 0
  have x1 := hbs.cell 1
  have x2 := hbs.cell 2
  have x3 := hbs.cell 3
  simp at x0 x1 x2 x3
  go_wp2_with fail
  refine bodyPost_ret (v := .tuple #[.agg #[.int .i64 t1, .slice C1 m1 e1, .int .i64 t2, .slice C2 m2 e2], .int .i64 E]) (by simp [results, Tryz.results94, go_sem, x0, x1, x2, x3]) rfl ?_
  exact ⟨_, by rw [HE.out], FO.mk2 ((g1.far4 hlt _ _ _ _).mono (by omega)) ((g2.far4 hlt _ _ _ _).mono (by omega)), below_st4 hT gR _ _ _ _⟩

set_option maxRecDepth 100000 in
set_option maxHeartbeats 8000000 in
theorem multiply_full (s1 s2 s3 s4 : Int) (A1 A2 A3 A4 : Option Addr) (n1 d1 n2 d2 n3 d3 n4 d4 : Nat) (p1 q1 p2 q2 : Int) (w : World) (ha : FV w w.heap.size s1 A1 n1 d1 s2 A2 n2 d2 p1 q1) (hb : FV w w.heap.size s3 A3 n3 d3 s4 A4 n4 d4 p2 q2) (h1 : ab p1 < pw 60) (h2 : ab q1 < pw 60) (h3 : ab p2 < pw 60) (h4 : ab q2 < pw 60) (hf : ¬ (ab (p1 * p2) < pw 60 ∧ ab (q1 * q2) < pw 60)) :
    Calls Tryz.prog 94 #[.agg #[.int .i64 s1, .slice A1 n1 d1, .int .i64 s2, .slice A2 n2 d2], .agg #[.int .i64 s3, .slice A3 n3 d3, .int .i64 s4, .slice A4 n4 d4]] w fun e w' => e = .returned (.tuple #[.agg #[.int .i64 0, .slice none 0 0, .int .i64 0, .slice none 0 0], .int .i64 6]) ∧ Below w.heap.size w w' := by
  have H1 := Lib.hid h1; clear h1
  have H2 := Lib.hid h2; clear h2
  have H3 := Lib.hid h3; clear h3
  have H4 := Lib.hid h4; clear h4
  obtain ⟨Em, hEm⟩ : ∃ z, fite (p1 * p2) = z := ⟨_, rfl⟩
  obtain ⟨Zm, hZm⟩ : ∃ z, fitz (p1 * p2) = z := ⟨_, rfl⟩
  obtain ⟨En, hEn⟩ : ∃ z, fite (q1 * q2) = z := ⟨_, rfl⟩
  obtain ⟨Zn, hZn⟩ : ∃ z, fitz (q1 * q2) = z := ⟨_, rfl⟩
  have hcs : (Em = 6 ∧ En = 0) ∨ (Em = 0 ∧ En = 6) ∨ (Em = 6 ∧ En = 6) := by
    rw [← hEm, ← hEn]
    by_cases a : ab (p1 * p2) < pw 60
    · exact .inr (.inl ⟨if_pos a, if_neg (fun b => hf ⟨a, b⟩)⟩)
    · by_cases b : ab (q1 * q2) < pw 60
      · exact .inl ⟨if_neg a, if_pos b⟩
      · exact .inr (.inr ⟨if_neg a, if_neg b⟩)
  clear hf
  have HEm := Lib.hid hEm; clear hEm
  have HZm := Lib.hid hZm; clear hZm
  have HEn := Lib.hid hEn; clear hEn
  have HZn := Lib.hid hZn; clear hZn
  have HCS := Lib.hid hcs; clear hcs
  go_enter Tryz.func94, Tryz.ntmps94
  go_wp2_with fail
  obtain ⟨W0, hW, hbx, ka, kb, kR⟩ := fboxes2 ha hb
  rw [← hW]
  clear hW ha hb
  have hT := hbx
  have za0 := ka.c0
  have za1 := ka.c1
  have zb0 := kb.c0
  have zb1 := kb.c1
  go_wp2_with fail
  clear za0 za1
  clear zb0 zb1
  have ltm := kR.blk.lt
  (with_reducible refine (mul_any _ _ _ _ _ ka.fv.a kb.fv.a H1.out H3.out).mono ?_)
  rintro e u1 ⟨rm, rfl, hrm, hb9⟩
  have hT := hT.trans (hb9.mono hT.size)
  have ka := ka.below hb9
  have kb := kb.below hb9
  have kR := kR.below hb9
  rw [HEm.out]
  rw [HZm.out] at hrm
  obtain ⟨sm, Am, nm, cm, rfl⟩ := hrm.form
  have kay := ka.below ((Below.refl _ u1).alloc (Nat.le_refl _) (.cells #[.int .i64 sm, .slice Am nm cm] 24))
  have za2y := kay.c2
  have za3y := kay.c3
  have kby := kb.below ((Below.refl _ u1).alloc (Nat.le_refl _) (.cells #[.int .i64 sm, .slice Am nm cm] 24))
  have zb2y := kby.c2
  have zb3y := kby.c3
  go_wp2_with fail
  clear za2y za3y
  clear kay
  clear zb2y zb3y
  clear kby
  obtain ⟨Wm, hW, hbx, km⟩ := box1 hrm
  rw [← hW]
  clear hW
  have hT := hT.trans (hbx.mono hT.size)
  have ka := ka.below hbx
  have kb := kb.below hbx
  have kR := kR.below hbx
  have ltn := kR.blk.lt
  (with_reducible refine (mul_any _ _ _ _ _ ka.fv.b kb.fv.b H2.out H4.out).mono ?_)
  rintro e u2 ⟨rn, rfl, hrn, hb9⟩
  have hT := hT.trans (hb9.mono hT.size)
  have ka := ka.below hb9
  have kb := kb.below hb9
  have kR := kR.below hb9
  have km := km.below hb9
  rw [HEn.out]
  rw [HZn.out] at hrn
  obtain ⟨sn, An, nn, cn, rfl⟩ := hrn.form
  clear ka kb km
  have kR := kR.below ((Below.refl _ u2).alloc (Nat.le_refl _) (.cells #[.int .i64 sn, .slice An nn cn] 24))
  have hT := hT.alloc hT.size (.cells #[.int .i64 sn, .slice An nn cn] 24)
  have h60 : max (6 : Int) 0 = 6 := rfl
  have h06 : max (0 : Int) 6 = 6 := rfl
  have h66 : max (6 : Int) 6 = 6 := rfl
  rcases HCS.out with ⟨rfl, rfl⟩ | ⟨rfl, rfl⟩ | ⟨rfl, rfl⟩
  all_goals
    have gR : w.heap.size ≤ w.heap.size + 1 + 1 := by omega
    have r0 := kR.blk.cell 0
    have r1 := kR.blk.cell 1
    have r2 := kR.blk.cell 2
    have r3 := kR.blk.cell 3
    have q0' := kR.blk.frozen 0
    have q1' := kR.blk.frozen 1
    have q2' := kR.blk.frozen 2
    have q3' := kR.blk.frozen 3
    simp at r0 r1 r2 r3
    have hbs := kR.blk.set4 (.int .i64 0) (.slice none 0 0) (.int .i64 0) (.slice none 0 0)
    have x0 := hbs.cell 0
    have x1 := hbs.cell 1
    have x2 := hbs.cell 2
    have x3 := hbs.cell 3
    simp at x0 x1 x2 x3
    go_wp2_with fail
    refine bodyPost_ret (v := .tuple #[.agg #[.int .i64 0, .slice none 0 0, .int .i64 0, .slice none 0 0], .int .i64 6]) (by simp [results, Tryz.results94, go_sem, x0, x1, x2, x3]) rfl ?_
    exact ⟨rfl, below_st4 hT gR _ _ _ _⟩

end Go.Proofs.YtkjpfnbdlbnbkaaGreatDoor

namespace Go.Proofs.YtkjpfnbdlbnbkaaGreatDoor
open Go.RowKit

theorem FR.pos {p q : Int} (h : FR p q) : 0 < q := And.left h
theorem FR.one {p q : Int} (h : FR p q) : ((Int.gcd p q : Nat) : Int) = 1 := And.right h
/-- What is returned for P above and Q below, where there is room for both as they are formed. -/
def QE (P Q : Int) : Int := if ab P < pw 60 ∧ ab Q < pw 60 then newE Q else 6
def QN (P Q : Int) : Int := if ab P < pw 60 ∧ ab Q < pw 60 then newN P Q else 0
def QD (P Q : Int) : Int := if ab P < pw 60 ∧ ab Q < pw 60 then newD P Q else 0
def QP (P Q : Int) (w : World) (e : Ending) (w' : World) : Prop := ∃ r, e = .returned (.tuple #[r, .int .i64 (QE P Q)]) ∧ FO w' w.heap.size r (QN P Q) (QD P Q) ∧ Below w.heap.size w w'
theorem multiply_any (s1 s2 s3 s4 : Int) (A1 A2 A3 A4 : Option Addr) (n1 d1 n2 d2 n3 d3 n4 d4 : Nat) (p1 q1 p2 q2 : Int) (w : World) (ha : FV w w.heap.size s1 A1 n1 d1 s2 A2 n2 d2 p1 q1) (hb : FV w w.heap.size s3 A3 n3 d3 s4 A4 n4 d4 p2 q2) (h1 : ab p1 < pw 60) (h2 : ab q1 < pw 60) (h3 : ab p2 < pw 60) (h4 : ab q2 < pw 60) :
    Calls Tryz.prog 94 #[.agg #[.int .i64 s1, .slice A1 n1 d1, .int .i64 s2, .slice A2 n2 d2], .agg #[.int .i64 s3, .slice A3 n3 d3, .int .i64 s4, .slice A4 n4 d4]] w (QP (p1 * p2) (q1 * q2) w) := by
  by_cases hf : ab (p1 * p2) < pw 60 ∧ ab (q1 * q2) < pw 60
  · have h := multiply_fit s1 s2 s3 s4 A1 A2 A3 A4 n1 d1 n2 d2 n3 d3 n4 d4 p1 q1 p2 q2 w ha hb h1 h2 h3 h4 hf
    unfold QP QE QN QD
    rw [if_pos hf, if_pos hf, if_pos hf]
    exact h
  · have h := multiply_full s1 s2 s3 s4 A1 A2 A3 A4 n1 d1 n2 d2 n3 d3 n4 d4 p1 q1 p2 q2 w ha hb h1 h2 h3 h4 hf
    unfold QP QE QN QD
    rw [if_neg hf, if_neg hf, if_neg hf]
    exact h.mono fun e w' ⟨he, hb⟩ => ⟨_, he, FO.zero _ _, hb⟩

set_option maxRecDepth 100000 in
set_option maxHeartbeats 8000000 in
theorem fmul_any (s1 s2 s3 s4 : Int) (A1 A2 A3 A4 : Option Addr) (n1 d1 n2 d2 n3 d3 n4 d4 : Nat) (p1 q1 p2 q2 : Int) (w : World) (ha : FV w w.heap.size s1 A1 n1 d1 s2 A2 n2 d2 p1 q1) (hb : FV w w.heap.size s3 A3 n3 d3 s4 A4 n4 d4 p2 q2) (h1 : ab p1 < pw 60) (h2 : ab q1 < pw 60) (h3 : ab p2 < pw 60) (h4 : ab q2 < pw 60) (f1 : FR p1 q1) (f2 : FR p2 q2) :
    Calls Tryz.prog 40 #[.agg #[.int .i64 s1, .slice A1 n1 d1, .int .i64 s2, .slice A2 n2 d2], .agg #[.int .i64 s3, .slice A3 n3 d3, .int .i64 s4, .slice A4 n4 d4]] w (QP (p1 * p2) (q1 * q2) w) := by
  have H1 := Lib.hid h1; clear h1
  have H2 := Lib.hid h2; clear h2
  have H3 := Lib.hid h3; clear h3
  have H4 := Lib.hid h4; clear h4
  have F1 := Lib.hid f1; clear f1
  have F2 := Lib.hid f2; clear f2
  unfold QP
  obtain ⟨E, hE⟩ : ∃ E, QE (p1 * p2) (q1 * q2) = E := ⟨_, rfl⟩
  obtain ⟨P, hP⟩ : ∃ E, QN (p1 * p2) (q1 * q2) = E := ⟨_, rfl⟩
  obtain ⟨Q, hQ⟩ : ∃ E, QD (p1 * p2) (q1 * q2) = E := ⟨_, rfl⟩
  rw [hE, hP, hQ]
  have HE := Lib.hid hE; clear hE
  have HP := Lib.hid hP; clear hP
  have HQ := Lib.hid hQ; clear hQ
  go_enter Tryz.func40, Tryz.ntmps40
  go_wp2_with fail
  obtain ⟨W0, hW, hbx, ka, kb, kR⟩ := fboxes2 ha hb
  rw [← hW]
  clear hW ha hb
  have hT := hbx
  have za0 := ka.c0
  have za1 := ka.c1
  have za2 := ka.c2
  have za3 := ka.c3
  go_wp2_with fail
  clear za0 za1 za2 za3
  (with_reducible refine (fright_pos _ ka.fv H1.out H2.out (FR.pos F1.out) true (decide_eq_true (FR.one F1.out))).mono ?_)
  rintro e u1 ⟨rfl, hb9⟩
  have hT := hT.trans (hb9.mono hT.size)
  have ka := ka.below hb9
  have kb := kb.below hb9
  have kR := kR.below hb9
  have zb0 := kb.c0
  have zb1 := kb.c1
  have zb2 := kb.c2
  have zb3 := kb.c3
  go_wp2_with fail
  clear zb0 zb1 zb2 zb3
  (with_reducible refine (fright_pos _ kb.fv H3.out H4.out (FR.pos F2.out) true (decide_eq_true (FR.one F2.out))).mono ?_)
  rintro e u2 ⟨rfl, hb9⟩
  have hT := hT.trans (hb9.mono hT.size)
  have ka := ka.below hb9
  have kb := kb.below hb9
  have kR := kR.below hb9
  have za0 := ka.c0
  have za1 := ka.c1
  have za2 := ka.c2
  have za3 := ka.c3
  have zb0 := kb.c0
  have zb1 := kb.c1
  have zb2 := kb.c2
  have zb3 := kb.c3
  go_wp2_with fail
  clear za0 za1 za2 za3
  clear zb0 zb1 zb2 zb3
  (with_reducible refine (multiply_any _ _ _ _ _ _ _ _ _ _ _ _ _ _ _ _ _ _ _ _ _ ka.fv kb.fv H1.out H2.out H3.out H4.out).mono ?_)
  have hlt := kR.blk.lt
  rintro e u3 ⟨rr, rfl, hrr, hb9⟩
  have hT := hT.trans (hb9.mono hT.size)
  have kR := kR.below hb9
  clear ka kb
  rw [HP.out, HQ.out] at hrr
  rw [HE.out]
  obtain ⟨t1, C1, m1, e1, t2, C2, m2, e2, rfl, g1, g2⟩ := hrr
  have gR : w.heap.size ≤ w.heap.size + 1 + 1 := by omega
  have r0 := kR.blk.cell 0
  have r1 := kR.blk.cell 1
  have r2 := kR.blk.cell 2
  have r3 := kR.blk.cell 3
  have q0' := kR.blk.frozen 0
  have q1' := kR.blk.frozen 1
  have q2' := kR.blk.frozen 2
  have q3' := kR.blk.frozen 3
  simp at r0 r1 r2 r3
  have hbs := kR.blk.set4 (.int .i64 t1) (.slice C1 m1 e1) (.int .i64 t2) (.slice C2 m2 e2)
  have x0 := hbs.cell 0
  have x1 := hbs.cell 1
  have x2 := hbs.cell 2
  have x3 := hbs.cell 3
  simp at x0 x1 x2 x3
  go_wp2_with fail
  refine bodyPost_ret (v := .tuple #[.agg #[.int .i64 t1, .slice C1 m1 e1, .int .i64 t2, .slice C2 m2 e2], .int .i64 E]) (by simp [results, Tryz.results40, go_sem, x0, x1, x2, x3]) rfl ?_
  exact ⟨_, rfl, FO.mk2 ((g1.far4 hlt _ _ _ _).mono (by omega)) ((g2.far4 hlt _ _ _ _).mono (by omega)), below_st4 hT gR _ _ _ _⟩

set_option maxRecDepth 100000 in
set_option maxHeartbeats 8000000 in
theorem fdiv_any (s1 s2 s3 s4 : Int) (A1 A2 A3 A4 : Option Addr) (n1 d1 n2 d2 n3 d3 n4 d4 : Nat) (p1 q1 p2 q2 : Int) (w : World) (ha : FV w w.heap.size s1 A1 n1 d1 s2 A2 n2 d2 p1 q1) (hb : FV w w.heap.size s3 A3 n3 d3 s4 A4 n4 d4 p2 q2) (h1 : ab p1 < pw 60) (h2 : ab q1 < pw 60) (h3 : ab p2 < pw 60) (h4 : ab q2 < pw 60) (f1 : FR p1 q1) (f2 : FR p2 q2) :
    Calls Tryz.prog 42 #[.agg #[.int .i64 s1, .slice A1 n1 d1, .int .i64 s2, .slice A2 n2 d2], .agg #[.int .i64 s3, .slice A3 n3 d3, .int .i64 s4, .slice A4 n4 d4]] w (QP (p1 * q2) (q1 * p2) w) := by
  have H1 := Lib.hid h1; clear h1
  have H2 := Lib.hid h2; clear h2
  have H3 := Lib.hid h3; clear h3
  have H4 := Lib.hid h4; clear h4
  have F1 := Lib.hid f1; clear f1
  have F2 := Lib.hid f2; clear f2
  unfold QP
  obtain ⟨E, hE⟩ : ∃ E, QE (p1 * q2) (q1 * p2) = E := ⟨_, rfl⟩
  obtain ⟨P, hP⟩ : ∃ E, QN (p1 * q2) (q1 * p2) = E := ⟨_, rfl⟩
  obtain ⟨Q, hQ⟩ : ∃ E, QD (p1 * q2) (q1 * p2) = E := ⟨_, rfl⟩
  rw [hE, hP, hQ]
  have HE := Lib.hid hE; clear hE
  have HP := Lib.hid hP; clear hP
  have HQ := Lib.hid hQ; clear hQ
  go_enter Tryz.func42, Tryz.ntmps42
  go_wp2_with fail
  obtain ⟨W0, hW, hbx, ka, kb, kR⟩ := fboxes2 ha hb
  rw [← hW]
  clear hW ha hb
  have hT := hbx
  have za0 := ka.c0
  have za1 := ka.c1
  have za2 := ka.c2
  have za3 := ka.c3
  go_wp2_with fail
  clear za0 za1 za2 za3
  (with_reducible refine (fright_pos _ ka.fv H1.out H2.out (FR.pos F1.out) true (decide_eq_true (FR.one F1.out))).mono ?_)
  rintro e u1 ⟨rfl, hb9⟩
  have hT := hT.trans (hb9.mono hT.size)
  have ka := ka.below hb9
  have kb := kb.below hb9
  have kR := kR.below hb9
  have zb0 := kb.c0
  have zb1 := kb.c1
  have zb2 := kb.c2
  have zb3 := kb.c3
  go_wp2_with fail
  clear zb0 zb1 zb2 zb3
  (with_reducible refine (fright_pos _ kb.fv H3.out H4.out (FR.pos F2.out) true (decide_eq_true (FR.one F2.out))).mono ?_)
  rintro e u2 ⟨rfl, hb9⟩
  have hT := hT.trans (hb9.mono hT.size)
  have ka := ka.below hb9
  have kb := kb.below hb9
  have kR := kR.below hb9
  have za0 := ka.c0
  have za1 := ka.c1
  have za2 := ka.c2
  have za3 := ka.c3
  have zb0 := kb.c0
  have zb1 := kb.c1
  have zb2 := kb.c2
  have zb3 := kb.c3
  go_wp2_with fail
  clear za0 za1 za2 za3
  clear zb0 zb1 zb2 zb3
  (with_reducible refine (multiply_any _ _ _ _ _ _ _ _ _ _ _ _ _ _ _ _ _ _ _ _ _ ka.fv ⟨kb.fv.b, kb.fv.a⟩ H1.out H2.out H4.out H3.out).mono ?_)
  have hlt := kR.blk.lt
  rintro e u3 ⟨rr, rfl, hrr, hb9⟩
  have hT := hT.trans (hb9.mono hT.size)
  have kR := kR.below hb9
  clear ka kb
  rw [HP.out, HQ.out] at hrr
  rw [HE.out]
  obtain ⟨t1, C1, m1, e1, t2, C2, m2, e2, rfl, g1, g2⟩ := hrr
  have gR : w.heap.size ≤ w.heap.size + 1 + 1 := by omega
  have r0 := kR.blk.cell 0
  have r1 := kR.blk.cell 1
  have r2 := kR.blk.cell 2
  have r3 := kR.blk.cell 3
  have q0' := kR.blk.frozen 0
  have q1' := kR.blk.frozen 1
  have q2' := kR.blk.frozen 2
  have q3' := kR.blk.frozen 3
  simp at r0 r1 r2 r3
  have hbs := kR.blk.set4 (.int .i64 t1) (.slice C1 m1 e1) (.int .i64 t2) (.slice C2 m2 e2)
  have x0 := hbs.cell 0
  have x1 := hbs.cell 1
  have x2 := hbs.cell 2
  have x3 := hbs.cell 3
  simp at x0 x1 x2 x3
  go_wp2_with fail
  refine bodyPost_ret (v := .tuple #[.agg #[.int .i64 t1, .slice C1 m1 e1, .int .i64 t2, .slice C2 m2 e2], .int .i64 E]) (by simp [results, Tryz.results42, go_sem, x0, x1, x2, x3]) rfl ?_
  exact ⟨_, rfl, FO.mk2 ((g1.far4 hlt _ _ _ _).mono (by omega)) ((g2.far4 hlt _ _ _ _).mono (by omega)), below_st4 hT gR _ _ _ _⟩

end Go.Proofs.YtkjpfnbdlbnbkaaGreatDoor

namespace Go.Proofs.YtkjpfnbdlbnbkaaGreatDoor
open Go.RowKit

/-- The reference's Same, at big integers that are right. -/
theorem sameBig_len {x y : Int} (h : (D (ab x)).length ≠ (D (ab y)).length) : decide (x = y) = false := by
  rw [decide_eq_false_iff_not]; rintro rfl; exact h rfl
theorem sameBig_sgn {x y : Int} (h : sgn x ≠ sgn y) : decide (x = y) = false := by
  rw [decide_eq_false_iff_not]; rintro rfl; exact h rfl


set_option maxRecDepth 100000 in
set_option maxHeartbeats 2000000 in
theorem sameBig_any (x y : Int) (vx vy : Value) (w : World) (hx : BV w w.heap.size vx x) (hy : BV w w.heap.size vy y) :
    Calls Tryz.prog 56 #[vx, vy] w fun e w' => e = .returned (.bool (decide (x = y))) ∧ Below w.heap.size w w' := by
  obtain ⟨A1, c1, rfl, hc1, hm1, hI1⟩ := hx
  obtain ⟨A2, c2, rfl, hc2, hm2, hI2⟩ := hy
  have hbx : Below w.heap.size w ((w.alloc (.cells #[.int .i64 (sgn x), .slice A1 (D (ab x)).length c1] 24)).alloc (.cells #[.int .i64 (sgn y), .slice A2 (D (ab y)).length c2] 24)) := ((Below.refl _ _).alloc (Nat.le_refl _) _).alloc (by simp) _
  by_cases hss : sgn x = sgn y
  · by_cases hll : (D (ab x)).length = (D (ab y)).length
    · have hdec : ∀ b : Bool, (D (ab x) = D (ab y) → b = true) → (D (ab x) ≠ D (ab y) → b = false) → b = decide (x = y) := by
        intro b h1 h2
        by_cases hd : D (ab x) = D (ab y)
        · rw [h1 hd]; symm; rw [decide_eq_true_iff]; exact same_iff.1 ⟨hss, hd⟩
        · rw [h2 hd]; symm; rw [decide_eq_false_iff_not]; exact fun h => hd (same_iff.2 h).2
      rw [← hss, ← hll] at hbx ⊢
      obtain ⟨lx, hlx⟩ : ∃ l, D (ab x) = l := ⟨_, rfl⟩
      obtain ⟨ly, hly⟩ : ∃ l, D (ab y) = l := ⟨_, rfl⟩
      rw [hlx, hly] at hdec hll
      rw [hlx] at hbx hI1 hc1 ⊢
      rw [hly] at hI2 hc2
      obtain ⟨n, hn⟩ : ∃ n, lx.length = n := ⟨_, rfl⟩
      have hnn : lx.length ≤ n ∧ n ≤ lx.length ∧ ly.length ≤ n ∧ n ≤ ly.length := by omega
      rw [hn] at hbx hc1 ⊢
      obtain ⟨s, hs⟩ : ∃ s, sgn x = s := ⟨_, rfl⟩
      rw [hs] at hbx ⊢
      have hnm : n ≤ 9223372036854775807 := by omega
      obtain ⟨W, hW⟩ : ∃ W, W = (w.alloc (.cells #[.int .i64 s, .slice A1 n c1] 24)).alloc (.cells #[.int .i64 s, .slice A2 n c2] 24) := ⟨_, rfl⟩
      obtain ⟨W', hW', _, k1, k2, _⟩ := boxes2 w #[.int .i64 s, .slice A1 n c1] #[.int .i64 s, .slice A2 n c2]
      rw [← hW'] at hW
      subst hW
      have HDEC := Lib.hid hdec
      clear hdec hn hs hll hlx hly hss hc1 hc2
      go_enter Tryz.func56, Tryz.ntmps56
      go_wp2_with fail
      rw [← hW'] at hbx ⊢
      clear hW'
      go_loopw [5] (fun i wr => ∃ k : Nat, k ≤ n ∧ i = .int .i64 k ∧ Hid (lx.take k = ly.take k) ∧ ∃ q, wr = W.drewN q) (fun i _ => n - (intOf i).toNat)
      case atStart => exact ⟨0, Nat.zero_le _, rfl, Lib.hid rfl, 0, rfl⟩
      case round =>
        obtain ⟨k, hk, rfl, ht, q, rfl⟩ := hrel
        have j1 : (W.drewN q).cell? ⟨w.heap.size, 1, none⟩ = some (.slice A1 n c1) := k1.cell 1
        have j2 : (W.drewN q).cell? ⟨w.heap.size + 1, 1, none⟩ = some (.slice A2 n c2) := k2.cell 1
        by_cases hlt : k < n
        · obtain ⟨b1, o1, hA1, hB1, hk1⟩ := hI1 k (by omega)
          obtain ⟨b2, o2, hA2, hB2, hk2⟩ := hI2 k (by omega)
          subst hA1; subst hA2
          have hk1 : (W.drewN q).cell? ⟨b1, o1 + k, none⟩ = some (.int .i64 (lx.getD k 0)) := (hbx.cell (p := ⟨b1, o1 + k, none⟩) hB1).trans hk1
          have hk2 : (W.drewN q).cell? ⟨b2, o2 + k, none⟩ = some (.int .i64 (ly.getD k 0)) := (hbx.cell (p := ⟨b2, o2 + k, none⟩) hB2).trans hk2
          have jW1 : W.cell? ⟨w.heap.size, 1, none⟩ = some (.slice (some ⟨b1, o1, none⟩) n c1) := k1.cell 1
          have jW2 : W.cell? ⟨w.heap.size + 1, 1, none⟩ = some (.slice (some ⟨b2, o2, none⟩) n c2) := k2.cell 1
          have hkW1 : W.cell? ⟨b1, o1 + k, none⟩ = some (.int .i64 (lx.getD k 0)) := hk1
          have hkW2 : W.cell? ⟨b2, o2 + k, none⟩ = some (.int .i64 (ly.getD k 0)) := hk2
          have e1 := take_snoc (l := lx) (k := k) (by omega)
          have e2 := take_snoc (l := ly) (k := k) (by omega)
          have hne : lx.getD k 0 ≠ ly.getD k 0 → lx ≠ ly := fun h e => h (by rw [e])
          obtain ⟨u, hu⟩ : ∃ u, lx.getD k 0 = u := ⟨_, rfl⟩
          obtain ⟨v, hv⟩ : ∃ u, ly.getD k 0 = u := ⟨_, rfl⟩
          rw [hu] at hk1 e1 hne hkW1
          rw [hv] at hk2 e2 hne hkW2
          clear hu hv
          have HE1 := Lib.hid e1; clear e1
          have HE2 := Lib.hid e2; clear e2
          have HNE := Lib.hid hne; clear hne
          by_cases huv : u = v
          · subst huv
            go_wp2_with fail
            go_quiet (fail)
            go_wp2_with fail
            go_roundw
            case rel => exact ⟨k + 1, by omega, by go_num, Lib.hid (by rw [HE1.out, HE2.out, ht.out]), _, rfl⟩
            case measure => simp [intOf]; omega
          · have huv' : (u != v) = true := by simpa using huv
            go_wp2_with fail
            go_quiet (fail)
            go_wp2_with fail
            go_ret
            exact ⟨by rw [← HDEC.out false (fun h => absurd h (HNE.out huv)) (fun _ => rfl)]; rfl, below_drewN (below_drewN hbx _) _⟩
        · have : k = n := by omega
          subst this
          have he := ht.out
          rw [List.take_of_length_le (l := lx) (by omega), List.take_of_length_le (l := ly) (by omega)] at he
          have HE := Lib.hid he; clear he
          go_wp2_with fail
          go_ret
          exact ⟨by rw [← HDEC.out true (fun _ => rfl) (fun h => absurd HE.out h)]; rfl, below_drewN hbx _⟩
    · rw [sameBig_len hll]
      obtain ⟨n1, hn1⟩ : ∃ n, (D (ab x)).length = n := ⟨_, rfl⟩
      obtain ⟨n2, hn2⟩ : ∃ n, (D (ab y)).length = n := ⟨_, rfl⟩
      rw [hn1, hn2] at hll hbx
      rw [hn1, hn2]
      rw [← hss] at hbx ⊢
      obtain ⟨s, hs⟩ : ∃ s, sgn x = s := ⟨_, rfl⟩
      rw [hs] at hbx ⊢
      have hd : decide (n1 = n2) = false := by simpa using hll
      have HBX := Lib.hid hbx
      clear hn1 hn2 hs hss hbx hI1 hI2 hc1 hc2
      go_enter Tryz.func56, Tryz.ntmps56
      go_wp2_with fail
      go_ret
      exact ⟨rfl, HBX.out⟩
  · rw [sameBig_sgn hss]
    obtain ⟨n1, hn1⟩ : ∃ n, (D (ab x)).length = n := ⟨_, rfl⟩
    obtain ⟨n2, hn2⟩ : ∃ n, (D (ab y)).length = n := ⟨_, rfl⟩
    rw [hn1, hn2] at hbx
    rw [hn1, hn2]
    obtain ⟨s1, hs1⟩ : ∃ s, sgn x = s := ⟨_, rfl⟩
    obtain ⟨s2, hs2⟩ : ∃ s, sgn y = s := ⟨_, rfl⟩
    rw [hs1, hs2] at hss hbx
    rw [hs1, hs2]
    have hd : (s1 != s2) = true := by simpa using hss
    have HBX := Lib.hid hbx
    clear hn1 hn2 hs1 hs2 hss hbx hI1 hI2 hc1 hc2
    go_enter Tryz.func56, Tryz.ntmps56
    go_wp2_with fail
    go_ret
    exact ⟨rfl, HBX.out⟩


theorem fboxes1 {w : World} {s1 s2 s3 s4 : Int} {A1 A2 A3 A4 : Option Addr} {n1 d1 n2 d2 n3 d3 n4 d4 : Nat} {p1 q1 p2 q2 : Int} (h1 : FV w w.heap.size s1 A1 n1 d1 s2 A2 n2 d2 p1 q1) (h2 : FV w w.heap.size s3 A3 n3 d3 s4 A4 n4 d4 p2 q2) :
    ∃ W, W = (w.alloc (.cells #[.int .i64 s1, .slice A1 n1 d1, .int .i64 s2, .slice A2 n2 d2] 43)).alloc (.cells #[.int .i64 s3, .slice A3 n3 d3, .int .i64 s4, .slice A4 n4 d4] 43) ∧ Below w.heap.size w W ∧
      Bf 43 W w.heap.size s1 A1 n1 d1 s2 A2 n2 d2 p1 q1 ∧ Bf 43 W (w.heap.size + 1) s3 A3 n3 d3 s4 A4 n4 d4 p2 q2 := by
  have hb1 : Below w.heap.size w (w.alloc (.cells #[.int .i64 s1, .slice A1 n1 d1, .int .i64 s2, .slice A2 n2 d2] 43)) := (Below.refl _ _).alloc (Nat.le_refl _) _
  have hb2 := hb1.alloc hb1.size (.cells #[.int .i64 s3, .slice A3 n3 d3, .int .i64 s4, .slice A4 n4 d4] 43)
  have k1 := Blk.new w 43 #[.int .i64 s1, .slice A1 n1 d1, .int .i64 s2, .slice A2 n2 d2]
  have k2 := Blk.new (w.alloc (.cells #[.int .i64 s1, .slice A1 n1 d1, .int .i64 s2, .slice A2 n2 d2] 43)) 43 #[.int .i64 s3, .slice A3 n3 d3, .int .i64 s4, .slice A4 n4 d4]
  simp only [World.size_alloc] at k2
  exact ⟨_, rfl, hb2, ⟨k1.alloc _, h1.later hb2⟩, ⟨k2, h2.later hb2⟩⟩

set_option maxRecDepth 100000 in
set_option maxHeartbeats 4000000 in
theorem fsame_any (s1 s2 s3 s4 : Int) (A1 A2 A3 A4 : Option Addr) (n1 d1 n2 d2 n3 d3 n4 d4 : Nat) (p1 q1 p2 q2 : Int) (w : World) (ha : FV w w.heap.size s1 A1 n1 d1 s2 A2 n2 d2 p1 q1) (hb : FV w w.heap.size s3 A3 n3 d3 s4 A4 n4 d4 p2 q2) (b : Bool) (hbb : decide (p1 = p2 ∧ q1 = q2) = b) :
    Calls Tryz.prog 39 #[.agg #[.int .i64 s1, .slice A1 n1 d1, .int .i64 s2, .slice A2 n2 d2], .agg #[.int .i64 s3, .slice A3 n3 d3, .int .i64 s4, .slice A4 n4 d4]] w fun e w' => e = .returned (.bool b) ∧ Below w.heap.size w w' := by
  have HBB := Lib.hid hbb; clear hbb
  go_enter Tryz.func39, Tryz.ntmps39
  go_wp2_with fail
  obtain ⟨W0, hW, hbx, ka, kb⟩ := fboxes1 ha hb
  rw [← hW]
  clear hW ha hb
  have hT := hbx
  have a0 := ka.c0
  have a1 := ka.c1
  have b0 := kb.c0
  have b1 := kb.c1
  go_wp2_with fail
  clear a0 a1 b0 b1
  (with_reducible refine (sameBig_any _ _ _ _ _ ka.fv.a kb.fv.a).mono ?_)
  rintro e u1 ⟨rfl, hb9⟩
  have hT := hT.trans (hb9.mono hT.size)
  have ka := ka.below hb9
  have kb := kb.below hb9
  by_cases h : p1 = p2
  · rw [decide_eq_true h]
    have a2 := ka.c2
    have a3 := ka.c3
    have b2 := kb.c2
    have b3 := kb.c3
    have hb1 : decide (q1 = q2) = b := by rw [← HBB.out]; simp [h]
    have HB1 := Lib.hid hb1; clear hb1 h
    go_wp2_with fail
    clear a2 a3 b2 b3
    (with_reducible refine (sameBig_any _ _ _ _ _ ka.fv.b kb.fv.b).mono ?_)
    rintro e u2 ⟨rfl, hb9⟩
    have hT := hT.trans (hb9.mono hT.size)
    rw [HB1.out]
    go_wp2_with fail
    go_ret
    exact ⟨rfl, hT⟩
  · rw [decide_eq_false h]
    have hb0 : b = false := by rw [← HBB.out]; simp [h]
    subst hb0
    clear h HBB
    go_wp2_with fail
    go_ret
    exact ⟨rfl, hT⟩

set_option maxRecDepth 100000 in
set_option maxHeartbeats 4000000 in
theorem ffew_any (s1 s2 n : Int) (A1 A2 : Option Addr) (n1 d1 n2 d2 : Nat) (w : World) (b : Bool) (hbb : decide ((n1 : Int) ≤ n ∧ (n2 : Int) ≤ n) = b) :
    Calls Tryz.prog 34 #[.agg #[.int .i64 s1, .slice A1 n1 d1, .int .i64 s2, .slice A2 n2 d2], .int .i64 n] w fun e w' => e = .returned (.bool b) ∧ Below w.heap.size w w' := by
  have HBB := Lib.hid hbb; clear hbb
  by_cases h : (n1 : Int) ≤ n
  · by_cases h2 : (n2 : Int) ≤ n
    · have hb0 : b = true := by rw [← HBB.out]; simp [h, h2]
      subst hb0
      clear HBB
      go_enter Tryz.func34, Tryz.ntmps34
      go_wp2_with fail
      go_ret
      exact ⟨rfl, (Below.refl _ _).alloc (Nat.le_refl _) _⟩
    · have hb0 : b = false := by rw [← HBB.out]; simp [h2]
      subst hb0
      clear HBB
      go_enter Tryz.func34, Tryz.ntmps34
      go_wp2_with fail
      go_ret
      exact ⟨rfl, (Below.refl _ _).alloc (Nat.le_refl _) _⟩
  · have hb0 : b = false := by rw [← HBB.out]; simp [h]
    subst hb0
    clear HBB
    go_enter Tryz.func34, Tryz.ntmps34
    go_wp2_with fail
    go_ret
    exact ⟨rfl, (Below.refl _ _).alloc (Nat.le_refl _) _⟩

end Go.Proofs.YtkjpfnbdlbnbkaaGreatDoor
