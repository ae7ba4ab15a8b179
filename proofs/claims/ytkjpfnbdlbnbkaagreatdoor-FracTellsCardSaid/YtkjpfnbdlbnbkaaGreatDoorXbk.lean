/- The module and the reference, told together for fractions. Printed by a program (rfboth.py). Walks: the law that the module and the reference tell the same of fractions. Printed by a program (jf.py). -/
import Derived.Test.YtkjpfnbdlbnbkaaGreatDoorXbd
import Derived.Test.YtkjpfnbdlbnbkaaGreatDoorXbh
import Derived.Test.YtkjpfnbdlbnbkaaGreatDoorXbj

namespace Go.Proofs.YtkjpfnbdlbnbkaaGreatDoor
open Go.RowKit

/-- A fraction and an error. -/
def FRes (P Q E : Int) (w : World) (e : Ending) (w' : World) : Prop := ∃ r, e = .returned (.tuple #[r, .int .i64 E]) ∧ FO w' w.heap.size r P Q ∧ Below w.heap.size w w'
theorem fres_zero {E : Int} {w w' : World} {e : Ending} (h : e = .returned (.tuple #[.agg #[.int .i64 0, .slice none 0 0, .int .i64 0, .slice none 0 0], .int .i64 E]) ∧ Below w.heap.size w w') : FRes 0 0 E w e w' := ⟨_, h.1, FO.zero _ _, h.2⟩

set_option maxRecDepth 100000 in
set_option maxHeartbeats 8000000 in
theorem rfdiv_zero (s1 s2 s3 s4 : Int) (A1 A2 A3 A4 : Option Addr) (n1 d1 n2 d2 n3 d3 n4 d4 : Nat) (p1 q1 q2 : Int) (w : World) (ha : FV w w.heap.size s1 A1 n1 d1 s2 A2 n2 d2 p1 q1) (hb : FV w w.heap.size s3 A3 n3 d3 s4 A4 n4 d4 0 q2) (h1 : ab p1 < pw 60) (h2 : ab q1 < pw 60) (h4 : ab q2 < pw 60) (r1 : FR p1 q1) (r2 : FR 0 q2) :
    Calls Tryz.prog 43 #[.agg #[.int .i64 s1, .slice A1 n1 d1, .int .i64 s2, .slice A2 n2 d2], .agg #[.int .i64 s3, .slice A3 n3 d3, .int .i64 s4, .slice A4 n4 d4]] w fun e w' => e = .returned (.tuple #[.agg #[.int .i64 0, .slice none 0 0, .int .i64 0, .slice none 0 0], .int .i64 15]) ∧ Below w.heap.size w w' := by
  have H1 := Lib.hid h1; clear h1
  have H2 := Lib.hid h2; clear h2
  have h3 : ab (0 : Int) < pw 60 := by rw [ab_zero]; exact pw_pos 60
  have H3 := Lib.hid h3; clear h3
  have H4 := Lib.hid h4; clear h4
  have F1 := Lib.hid r1; clear r1
  have F2 := Lib.hid r2; clear r2
  have hs0 : s3 = 0 := (bv_sv hb.a).2.1
  subst hs0
  go_enter Tryz.func43, Tryz.ntmps43
  go_wp2_with fail
  obtain ⟨W0, hW, hbx, ka, kb, kR⟩ := fboxes2 ha hb
  rw [← hW]
  clear hW ha hb
  have hT := hbx
  have za0 := ka.c0
  have za1 := ka.c1
  have za2 := ka.c2
  have za3 := ka.c3
  go_wp2_with fail
  clear za0 za1 za2 za3
  (with_reducible refine (rfright_yes _ ka.fv H1.out H2.out F1.out).mono ?_)
  rintro e u1 ⟨rfl, hb9⟩
  replace hT := hT.trans (hb9.mono hT.size)
  replace ka := ka.below hb9
  replace kb := kb.below hb9
  replace kR := kR.below hb9
  have zb0 := kb.c0
  have zb1 := kb.c1
  have zb2 := kb.c2
  have zb3 := kb.c3
  go_wp2_with fail
  clear zb0 zb1 zb2 zb3
  (with_reducible refine (rfright_yes _ kb.fv H3.out H4.out F2.out).mono ?_)
  rintro e u2 ⟨rfl, hb9⟩
  replace hT := hT.trans (hb9.mono hT.size)
  replace ka := ka.below hb9
  replace kb := kb.below hb9
  replace kR := kR.below hb9
  have zb0 := kb.c0
  clear ka
  have gR : w.heap.size ≤ w.heap.size + 1 + 1 := by omega
  have r0 := kR.blk.cell 0
  have r1 := kR.blk.cell 1
  have r2 := kR.blk.cell 2
  have r3 := kR.blk.cell 3
  have q0' := kR.blk.frozen 0
  have q1' := kR.blk.frozen 1
  have q2' := kR.blk.frozen 2
  have q3' := kR.blk.frozen 3
  simp at r0 r1 r2 r3
  have hbs := kR.blk.set4 (.int .i64 0) (.slice none 0 0) (.int .i64 0) (.slice none 0 0)
  have x0 := hbs.cell 0
  have x1 := hbs.cell 1
  have x2 := hbs.cell 2
  have x3 := hbs.cell 3
  simp at x0 x1 x2 x3
  go_wp2_with fail
  refine bodyPost_ret (v := .tuple #[.agg #[.int .i64 0, .slice none 0 0, .int .i64 0, .slice none 0 0], .int .i64 15]) (by simp [results, Tryz.results43, go_sem, x0, x1, x2, x3]) rfl ?_
  exact ⟨rfl, below_st4 hT gR _ _ _ _⟩

set_option maxRecDepth 100000 in
set_option maxHeartbeats 8000000 in
theorem rfcompare_bad {s1 s2 s3 s4 : Int} {l1 l2 l3 l4 : List Int} {A1 A2 A3 A4 : Option Addr} {n1 d1 n2 d2 n3 d3 n4 d4 : Nat} (w : World) (h1 : Ar w s1 l1 A1 n1 d1) (h2 : Ar w s2 l2 A2 n2 d2) (h3 : Ar w s3 l3 A3 n3 d3) (h4 : Ar w s4 l4 A4 n4 d4) (hb : ¬ (RF s1 l1 s2 l2 ∧ RF s3 l3 s4 l4)) :
    Calls Tryz.prog 53 #[.agg #[.int .i64 s1, .slice A1 n1 d1, .int .i64 s2, .slice A2 n2 d2], .agg #[.int .i64 s3, .slice A3 n3 d3, .int .i64 s4, .slice A4 n4 d4]] w fun e w' => e = .returned (.int .i64 0) ∧ Below w.heap.size w w' := by
  have HB := Lib.hid hb; clear hb
  go_enter Tryz.func53, Tryz.ntmps53
  go_wp2_with fail
  obtain ⟨W0, hW, hbx, ka, kb⟩ := afboxes1 h1 h2 h3 h4
  rw [← hW]
  clear hW h1 h2 h3 h4
  have hT := hbx
  have za0 := ka.c0
  have za1 := ka.c1
  have za2 := ka.c2
  have za3 := ka.c3
  go_wp2_with fail
  clear za0 za1 za2 za3
  by_cases hr : RF s1 l1 s2 l2
  · (with_reducible refine (rfright_any _ ka.a ka.b true (by simp [hr])).mono ?_)
    rintro e u1 ⟨rfl, hb9⟩
    have hT := hT.trans (hb9.mono hT.size)
    have ka := ka.below hb9
    have kb := kb.below hb9
    have zb0 := kb.c0
    have zb1 := kb.c1
    have zb2 := kb.c2
    have zb3 := kb.c3
    go_wp2_with fail
    clear zb0 zb1 zb2 zb3
    (with_reducible refine (rfright_any _ kb.a kb.b false (by simp only [Bool.false_eq_true, false_iff]; exact fun h => absurd ⟨hr, h⟩ HB.out)).mono ?_)
    rintro e u2 ⟨rfl, hb9⟩
    have hT := hT.trans (hb9.mono hT.size)
    have ka := ka.below hb9
    have kb := kb.below hb9
    clear ka kb
    go_wp2_with fail
    go_ret
    exact ⟨rfl, hT⟩
  · (with_reducible refine (rfright_any _ ka.a ka.b false (by simp [hr])).mono ?_)
    rintro e u1 ⟨rfl, hb9⟩
    have hT := hT.trans (hb9.mono hT.size)
    have ka := ka.below hb9
    have kb := kb.below hb9
    clear ka kb
    go_wp2_with fail
    go_ret
    exact ⟨rfl, hT⟩

section
variable {s1 s2 s3 s4 : Int} {l1 l2 l3 l4 : List Int} {A1 A2 A3 A4 : Option Addr} {n1 d1 n2 d2 n3 d3 n4 d4 : Nat} {w : World}
theorem RF.two (h : RF s1 l1 s2 l2) (h1 : Ar w s1 l1 A1 n1 d1) (h2 : Ar w s2 l2 A2 n2 d2) : ∃ x : Rat, Rb x 60 60 ∧ ∀ w1, Below w.heap.size w w1 → FV w1 w1.heap.size s1 A1 n1 d1 s2 A2 n2 d2 x.num x.den := by
  obtain ⟨x, hv, _, a, b, _⟩ := h.fv h1 h2
  exact ⟨x, ⟨a, b⟩, fun w1 hb => hv.later hb⟩
theorem gcd_zero_one {q : Int} (h : FR 0 q) : q = 1 := by
  have h1 := FR.one h
  have h0 := FR.pos h
  rw [Int.gcd_zero_left] at h1
  omega

theorem bothf_add (h1 : Ar w s1 l1 A1 n1 d1) (h2 : Ar w s2 l2 A2 n2 d2) (h3 : Ar w s3 l3 A3 n3 d3) (h4 : Ar w s4 l4 A4 n4 d4) :
    ∃ P Q E, Both 35 36 #[.agg #[.int .i64 s1, .slice A1 n1 d1, .int .i64 s2, .slice A2 n2 d2], .agg #[.int .i64 s3, .slice A3 n3 d3, .int .i64 s4, .slice A4 n4 d4]] w (FRes P Q E) := by
  by_cases hr : RF s1 l1 s2 l2 ∧ RF s3 l3 s4 l4
  · obtain ⟨x, bx, hx⟩ := hr.1.two h1 h2
    obtain ⟨y, by', hy⟩ := hr.2.two h3 h4
    by_cases c1 : ab (x.num * y.den) < pw 60
    · by_cases c2 : ab (y.num * x.den) < pw 60
      · by_cases c3 : ab ((x.den : Int) * y.den) < pw 60
        · by_cases c4 : ab (x.num * y.den + y.num * x.den) < pw 60
          · exact ⟨_, _, _, fun w1 hb => ⟨fadd_fit _ _ _ _ _ _ _ _ _ _ _ _ _ _ _ _ _ _ _ _ w1 (hx w1 hb) (hy w1 hb) bx.n bx.d by'.n by'.d (FR.of x) (FR.of y) c1 c2 c4 c3, rfadd_fit _ _ _ _ _ _ _ _ _ _ _ _ _ _ _ _ _ _ _ _ w1 (hx w1 hb) (hy w1 hb) bx.n bx.d by'.n by'.d (FR.of x) (FR.of y) c1 c2 c3 c4⟩⟩
          · exact ⟨_, _, _, fun w1 hb => ⟨(fadd_full _ _ _ _ _ _ _ _ _ _ _ _ _ _ _ _ _ _ _ _ w1 (hx w1 hb) (hy w1 hb) bx.n bx.d by'.n by'.d (FR.of x) (FR.of y) (fun h => c4 h.2.2.1)).mono fun _ _ h => fres_zero h, (rfadd_3 _ _ _ _ _ _ _ _ _ _ _ _ _ _ _ _ _ _ _ _ w1 (hx w1 hb) (hy w1 hb) bx.n bx.d by'.n by'.d (FR.of x) (FR.of y) c1 c2 c3 c4).mono fun _ _ h => fres_zero h⟩⟩
        · exact ⟨_, _, _, fun w1 hb => ⟨(fadd_full _ _ _ _ _ _ _ _ _ _ _ _ _ _ _ _ _ _ _ _ w1 (hx w1 hb) (hy w1 hb) bx.n bx.d by'.n by'.d (FR.of x) (FR.of y) (fun h => c3 h.2.2.2)).mono fun _ _ h => fres_zero h, (rfadd_2 _ _ _ _ _ _ _ _ _ _ _ _ _ _ _ _ _ _ _ _ w1 (hx w1 hb) (hy w1 hb) bx.n bx.d by'.n by'.d (FR.of x) (FR.of y) c1 c2 c3).mono fun _ _ h => fres_zero h⟩⟩
      · exact ⟨_, _, _, fun w1 hb => ⟨(fadd_full _ _ _ _ _ _ _ _ _ _ _ _ _ _ _ _ _ _ _ _ w1 (hx w1 hb) (hy w1 hb) bx.n bx.d by'.n by'.d (FR.of x) (FR.of y) (fun h => c2 h.2.1)).mono fun _ _ h => fres_zero h, (rfadd_1 _ _ _ _ _ _ _ _ _ _ _ _ _ _ _ _ _ _ _ _ w1 (hx w1 hb) (hy w1 hb) bx.n bx.d by'.n by'.d (FR.of x) (FR.of y) c1 c2).mono fun _ _ h => fres_zero h⟩⟩
    · exact ⟨_, _, _, fun w1 hb => ⟨(fadd_full _ _ _ _ _ _ _ _ _ _ _ _ _ _ _ _ _ _ _ _ w1 (hx w1 hb) (hy w1 hb) bx.n bx.d by'.n by'.d (FR.of x) (FR.of y) (fun h => c1 h.1)).mono fun _ _ h => fres_zero h, (rfadd_0 _ _ _ _ _ _ _ _ _ _ _ _ _ _ _ _ _ _ _ _ w1 (hx w1 hb) (hy w1 hb) bx.n bx.d by'.n by'.d (FR.of x) (FR.of y) c1).mono fun _ _ h => fres_zero h⟩⟩
  · exact ⟨_, _, _, fun w1 hb => ⟨(fadd_bad w1 (h1.later hb) (h2.later hb) (h3.later hb) (h4.later hb) hr).mono fun _ _ h => fres_zero h, (rfadd_bad w1 (h1.later hb) (h2.later hb) (h3.later hb) (h4.later hb) hr).mono fun _ _ h => fres_zero h⟩⟩

theorem bothf_sub (h1 : Ar w s1 l1 A1 n1 d1) (h2 : Ar w s2 l2 A2 n2 d2) (h3 : Ar w s3 l3 A3 n3 d3) (h4 : Ar w s4 l4 A4 n4 d4) :
    ∃ P Q E, Both 37 38 #[.agg #[.int .i64 s1, .slice A1 n1 d1, .int .i64 s2, .slice A2 n2 d2], .agg #[.int .i64 s3, .slice A3 n3 d3, .int .i64 s4, .slice A4 n4 d4]] w (FRes P Q E) := by
  by_cases hr : RF s1 l1 s2 l2 ∧ RF s3 l3 s4 l4
  · obtain ⟨x, bx, hx⟩ := hr.1.two h1 h2
    obtain ⟨y, by', hy⟩ := hr.2.two h3 h4
    by_cases c1 : ab (x.num * y.den) < pw 60
    · by_cases c2 : ab (y.num * x.den) < pw 60
      · by_cases c3 : ab ((x.den : Int) * y.den) < pw 60
        · by_cases c4 : ab (x.num * y.den - y.num * x.den) < pw 60
          · exact ⟨_, _, _, fun w1 hb => ⟨fsub_fit _ _ _ _ _ _ _ _ _ _ _ _ _ _ _ _ _ _ _ _ w1 (hx w1 hb) (hy w1 hb) bx.n bx.d by'.n by'.d (FR.of x) (FR.of y) c1 c2 c4 c3, rfsub_fit _ _ _ _ _ _ _ _ _ _ _ _ _ _ _ _ _ _ _ _ w1 (hx w1 hb) (hy w1 hb) bx.n bx.d by'.n by'.d (FR.of x) (FR.of y) c1 c2 c3 c4⟩⟩
          · exact ⟨_, _, _, fun w1 hb => ⟨(fsub_full _ _ _ _ _ _ _ _ _ _ _ _ _ _ _ _ _ _ _ _ w1 (hx w1 hb) (hy w1 hb) bx.n bx.d by'.n by'.d (FR.of x) (FR.of y) (fun h => c4 h.2.2.1)).mono fun _ _ h => fres_zero h, (rfsub_3 _ _ _ _ _ _ _ _ _ _ _ _ _ _ _ _ _ _ _ _ w1 (hx w1 hb) (hy w1 hb) bx.n bx.d by'.n by'.d (FR.of x) (FR.of y) c1 c2 c3 c4).mono fun _ _ h => fres_zero h⟩⟩
        · exact ⟨_, _, _, fun w1 hb => ⟨(fsub_full _ _ _ _ _ _ _ _ _ _ _ _ _ _ _ _ _ _ _ _ w1 (hx w1 hb) (hy w1 hb) bx.n bx.d by'.n by'.d (FR.of x) (FR.of y) (fun h => c3 h.2.2.2)).mono fun _ _ h => fres_zero h, (rfsub_2 _ _ _ _ _ _ _ _ _ _ _ _ _ _ _ _ _ _ _ _ w1 (hx w1 hb) (hy w1 hb) bx.n bx.d by'.n by'.d (FR.of x) (FR.of y) c1 c2 c3).mono fun _ _ h => fres_zero h⟩⟩
      · exact ⟨_, _, _, fun w1 hb => ⟨(fsub_full _ _ _ _ _ _ _ _ _ _ _ _ _ _ _ _ _ _ _ _ w1 (hx w1 hb) (hy w1 hb) bx.n bx.d by'.n by'.d (FR.of x) (FR.of y) (fun h => c2 h.2.1)).mono fun _ _ h => fres_zero h, (rfsub_1 _ _ _ _ _ _ _ _ _ _ _ _ _ _ _ _ _ _ _ _ w1 (hx w1 hb) (hy w1 hb) bx.n bx.d by'.n by'.d (FR.of x) (FR.of y) c1 c2).mono fun _ _ h => fres_zero h⟩⟩
    · exact ⟨_, _, _, fun w1 hb => ⟨(fsub_full _ _ _ _ _ _ _ _ _ _ _ _ _ _ _ _ _ _ _ _ w1 (hx w1 hb) (hy w1 hb) bx.n bx.d by'.n by'.d (FR.of x) (FR.of y) (fun h => c1 h.1)).mono fun _ _ h => fres_zero h, (rfsub_0 _ _ _ _ _ _ _ _ _ _ _ _ _ _ _ _ _ _ _ _ w1 (hx w1 hb) (hy w1 hb) bx.n bx.d by'.n by'.d (FR.of x) (FR.of y) c1).mono fun _ _ h => fres_zero h⟩⟩
  · exact ⟨_, _, _, fun w1 hb => ⟨(fsub_bad w1 (h1.later hb) (h2.later hb) (h3.later hb) (h4.later hb) hr).mono fun _ _ h => fres_zero h, (rfsub_bad w1 (h1.later hb) (h2.later hb) (h3.later hb) (h4.later hb) hr).mono fun _ _ h => fres_zero h⟩⟩

theorem bothf_mul (h1 : Ar w s1 l1 A1 n1 d1) (h2 : Ar w s2 l2 A2 n2 d2) (h3 : Ar w s3 l3 A3 n3 d3) (h4 : Ar w s4 l4 A4 n4 d4) :
    ∃ P Q E, Both 40 41 #[.agg #[.int .i64 s1, .slice A1 n1 d1, .int .i64 s2, .slice A2 n2 d2], .agg #[.int .i64 s3, .slice A3 n3 d3, .int .i64 s4, .slice A4 n4 d4]] w (FRes P Q E) := by
  by_cases hr : RF s1 l1 s2 l2 ∧ RF s3 l3 s4 l4
  · obtain ⟨x, bx, hx⟩ := hr.1.two h1 h2
    obtain ⟨y, by', hy⟩ := hr.2.two h3 h4
    refine ⟨QN (x.num * y.num) ((x.den : Int) * y.den), QD (x.num * y.num) ((x.den : Int) * y.den), QE (x.num * y.num) ((x.den : Int) * y.den), fun w1 hb => ⟨fmul_any _ _ _ _ _ _ _ _ _ _ _ _ _ _ _ _ _ _ _ _ w1 (hx w1 hb) (hy w1 hb) bx.n bx.d by'.n by'.d (FR.of x) (FR.of y), ?_⟩⟩
    by_cases c1 : ab (x.num * y.num) < pw 60
    · by_cases c2 : ab ((x.den : Int) * y.den) < pw 60
      · have h := rfmul_fit _ _ _ _ _ _ _ _ _ _ _ _ _ _ _ _ _ _ _ _ w1 (hx w1 hb) (hy w1 hb) bx.n bx.d by'.n by'.d (FR.of x) (FR.of y) c1 c2
        unfold FRes QN QD QE
        rw [if_pos ⟨c1, c2⟩, if_pos ⟨c1, c2⟩, if_pos ⟨c1, c2⟩]
        exact h
      · unfold FRes QN QD QE
        have hf : ¬ (ab (x.num * y.num) < pw 60 ∧ ab ((x.den : Int) * y.den) < pw 60) := fun h => c2 h.2
        rw [if_neg hf, if_neg hf, if_neg hf]
        exact (rfmul_1 _ _ _ _ _ _ _ _ _ _ _ _ _ _ _ _ _ _ _ _ w1 (hx w1 hb) (hy w1 hb) bx.n bx.d by'.n by'.d (FR.of x) (FR.of y) c1 c2).mono fun _ _ h => fres_zero h
    · unfold FRes QN QD QE
      have hf : ¬ (ab (x.num * y.num) < pw 60 ∧ ab ((x.den : Int) * y.den) < pw 60) := fun h => c1 h.1
      rw [if_neg hf, if_neg hf, if_neg hf]
      exact (rfmul_0 _ _ _ _ _ _ _ _ _ _ _ _ _ _ _ _ _ _ _ _ w1 (hx w1 hb) (hy w1 hb) bx.n bx.d by'.n by'.d (FR.of x) (FR.of y) c1).mono fun _ _ h => fres_zero h
  · exact ⟨_, _, _, fun w1 hb => ⟨(fmul_bad w1 (h1.later hb) (h2.later hb) (h3.later hb) (h4.later hb) hr).mono fun _ _ h => fres_zero h, (rfmul_bad w1 (h1.later hb) (h2.later hb) (h3.later hb) (h4.later hb) hr).mono fun _ _ h => fres_zero h⟩⟩

theorem bothf_div (h1 : Ar w s1 l1 A1 n1 d1) (h2 : Ar w s2 l2 A2 n2 d2) (h3 : Ar w s3 l3 A3 n3 d3) (h4 : Ar w s4 l4 A4 n4 d4) :
    ∃ P Q E, Both 42 43 #[.agg #[.int .i64 s1, .slice A1 n1 d1, .int .i64 s2, .slice A2 n2 d2], .agg #[.int .i64 s3, .slice A3 n3 d3, .int .i64 s4, .slice A4 n4 d4]] w (FRes P Q E) := by
  by_cases hr : RF s1 l1 s2 l2 ∧ RF s3 l3 s4 l4
  · obtain ⟨x, bx, hx⟩ := hr.1.two h1 h2
    obtain ⟨y, by', hy⟩ := hr.2.two h3 h4
    by_cases hz : y.num = 0
    · have hq : (y.den : Int) = 1 := gcd_zero_one (by have := FR.of y; rwa [hz] at this)
      refine ⟨0, 0, 15, fun w1 hb => ⟨?_, ?_⟩⟩
      · have h := fdiv_any _ _ _ _ _ _ _ _ _ _ _ _ _ _ _ _ _ _ _ _ w1 (hx w1 hb) (hy w1 hb) bx.n bx.d by'.n by'.d (FR.of x) (FR.of y)
        rw [hz, hq] at h
        have hc : ab (x.num * 1) < pw 60 ∧ ab ((x.den : Int) * 0) < pw 60 := by
          rw [Int.mul_one, Int.mul_zero, ab_zero]
          exact ⟨bx.n, pw_pos 60⟩
        unfold QP QE QN QD newE newN newD at h
        rw [if_pos hc, if_pos hc, if_pos hc, Int.mul_zero, if_pos rfl, if_pos rfl, if_pos rfl] at h
        exact h
      · have h := hy w1 hb
        have hf := FR.of y
        rw [hz] at h hf
        exact (rfdiv_zero _ _ _ _ _ _ _ _ _ _ _ _ _ _ _ _ _ _ _ w1 (hx w1 hb) h bx.n bx.d by'.d (FR.of x) hf).mono fun _ _ h => fres_zero h
    refine ⟨QN (x.num * y.den) ((x.den : Int) * y.num), QD (x.num * y.den) ((x.den : Int) * y.num), QE (x.num * y.den) ((x.den : Int) * y.num), fun w1 hb => ⟨fdiv_any _ _ _ _ _ _ _ _ _ _ _ _ _ _ _ _ _ _ _ _ w1 (hx w1 hb) (hy w1 hb) bx.n bx.d by'.n by'.d (FR.of x) (FR.of y), ?_⟩⟩
    by_cases c1 : ab (x.num * y.den) < pw 60
    · by_cases c2 : ab ((x.den : Int) * y.num) < pw 60
      · have h := rfdiv_fit _ _ _ _ _ _ _ _ _ _ _ _ _ _ _ _ _ _ _ _ w1 (hx w1 hb) (hy w1 hb) bx.n bx.d by'.n by'.d (FR.of x) (FR.of y) hz c1 c2
        unfold FRes QN QD QE
        rw [if_pos ⟨c1, c2⟩, if_pos ⟨c1, c2⟩, if_pos ⟨c1, c2⟩]
        exact h
      · unfold FRes QN QD QE
        have hf : ¬ (ab (x.num * y.den) < pw 60 ∧ ab ((x.den : Int) * y.num) < pw 60) := fun h => c2 h.2
        rw [if_neg hf, if_neg hf, if_neg hf]
        exact (rfdiv_1 _ _ _ _ _ _ _ _ _ _ _ _ _ _ _ _ _ _ _ _ w1 (hx w1 hb) (hy w1 hb) bx.n bx.d by'.n by'.d (FR.of x) (FR.of y) hz c1 c2).mono fun _ _ h => fres_zero h
    · unfold FRes QN QD QE
      have hf : ¬ (ab (x.num * y.den) < pw 60 ∧ ab ((x.den : Int) * y.num) < pw 60) := fun h => c1 h.1
      rw [if_neg hf, if_neg hf, if_neg hf]
      exact (rfdiv_0 _ _ _ _ _ _ _ _ _ _ _ _ _ _ _ _ _ _ _ _ w1 (hx w1 hb) (hy w1 hb) bx.n bx.d by'.n by'.d (FR.of x) (FR.of y) hz c1).mono fun _ _ h => fres_zero h
  · exact ⟨_, _, _, fun w1 hb => ⟨(fdiv_bad w1 (h1.later hb) (h2.later hb) (h3.later hb) (h4.later hb) hr).mono fun _ _ h => fres_zero h, (rfdiv_bad w1 (h1.later hb) (h2.later hb) (h3.later hb) (h4.later hb) hr).mono fun _ _ h => fres_zero h⟩⟩

theorem bothf_new (h1 : Ar w s1 l1 A1 n1 d1) (h3 : Ar w s3 l3 A3 n3 d3) :
    ∃ P Q E, Both 48 49 #[.agg #[.int .i64 s1, .slice A1 n1 d1], .agg #[.int .i64 s3, .slice A3 n3 d3]] w (FRes P Q E) := by
  by_cases hr : RightP s1 l1 ∧ RightP s3 l3
  · obtain ⟨x, hx6, hx⟩ := h1.zz hr.1
    obtain ⟨y, hy6, hy⟩ := h3.zz hr.2
    exact ⟨_, _, _, fun w1 hb => ⟨new_any _ _ _ _ _ _ _ _ x y w1 (hx w1 hb) (hy w1 hb) hx6 hy6, rnew_any _ _ _ _ _ _ _ _ x y w1 (hx w1 hb) (hy w1 hb) hx6 hy6⟩⟩
  · exact ⟨_, _, _, fun w1 hb => ⟨(new_bad w1 (h1.later hb) (h3.later hb) hr).mono fun _ _ h => fres_zero h, (rnew_bad w1 (h1.later hb) (h3.later hb) hr).mono fun _ _ h => fres_zero h⟩⟩
theorem bothf_of {p q : Int} (hp : isI p) (hq : isI q) : ∃ P Q E, Both 44 45 #[.int .i64 p, .int .i64 q] w (FRes P Q E) :=
  ⟨_, _, _, fun w1 _ => ⟨fof_any p q w1 hp hq, rfof_any p q w1 hp hq⟩⟩
theorem bothf_read (s : ByteArray) (hs : s.size ≤ 300) : ∃ P Q E, Both 46 47 #[.string s] w (FRes P Q E) := by
  by_cases h : ∃ x, Rb x 60 60 ∧ bts s = ftx x
  · obtain ⟨x, hx, hS⟩ := h
    exact ⟨_, _, _, fun w1 _ => ⟨fread_yes s w1 (by omega) x hS hx, rfread_yes s w1 hs x hS hx⟩⟩
  · have hn : ∀ x, Rb x 60 60 → bts s ≠ ftx x := fun x hx hS => h ⟨x, hx, hS⟩
    exact ⟨_, _, _, fun w1 _ => ⟨(fread_no s w1 (by omega) hn).mono fun _ _ h => fres_zero h, (rfread_no s w1 hs hn).mono fun _ _ h => fres_zero h⟩⟩
theorem bothf_right (h1 : Ar w s1 l1 A1 n1 d1) (h2 : Ar w s2 l2 A2 n2 d2) : ∃ b, Both 50 51 #[.agg #[.int .i64 s1, .slice A1 n1 d1, .int .i64 s2, .slice A2 n2 d2]] w (ResV (.bool b)) := by
  by_cases hr : RF s1 l1 s2 l2
  · exact ⟨true, fun w1 hb => ⟨fright_any w1 (h1.later hb) (h2.later hb) true (by simp [hr]), rfright_any w1 (h1.later hb) (h2.later hb) true (by simp [hr])⟩⟩
  · exact ⟨false, fun w1 hb => ⟨fright_any w1 (h1.later hb) (h2.later hb) false (by simp [hr]), rfright_any w1 (h1.later hb) (h2.later hb) false (by simp [hr])⟩⟩
theorem bothf_compare (h1 : Ar w s1 l1 A1 n1 d1) (h2 : Ar w s2 l2 A2 n2 d2) (h3 : Ar w s3 l3 A3 n3 d3) (h4 : Ar w s4 l4 A4 n4 d4) : ∃ c, Both 52 53 #[.agg #[.int .i64 s1, .slice A1 n1 d1, .int .i64 s2, .slice A2 n2 d2], .agg #[.int .i64 s3, .slice A3 n3 d3, .int .i64 s4, .slice A4 n4 d4]] w (ResV (.int .i64 c)) := by
  by_cases hr : RF s1 l1 s2 l2 ∧ RF s3 l3 s4 l4
  · obtain ⟨x, bx, hx⟩ := hr.1.two h1 h2
    obtain ⟨y, by', hy⟩ := hr.2.two h3 h4
    refine ⟨_, fun w1 hb => ⟨rcompare w1 (hx w1 hb) (hy w1 hb) bx by', ?_⟩⟩
    have h := rfcompare_any _ _ _ _ _ _ _ _ _ _ _ _ _ _ _ _ _ _ _ _ w1 (hx w1 hb) (hy w1 hb) bx.n bx.d by'.n by'.d (FR.of x) (FR.of y)
    rw [ordR] at h
    exact h
  · exact ⟨_, fun w1 hb => ⟨fcompare_bad w1 (h1.later hb) (h2.later hb) (h3.later hb) (h4.later hb) hr, rfcompare_bad w1 (h1.later hb) (h2.later hb) (h3.later hb) (h4.later hb) hr⟩⟩
theorem bothf_text (h1 : Ar w s1 l1 A1 n1 d1) (h2 : Ar w s2 l2 A2 n2 d2) (ht : TB w) : ∃ t, Both 54 55 #[.agg #[.int .i64 s1, .slice A1 n1 d1, .int .i64 s2, .slice A2 n2 d2]] w (ResV (.string t)) := by
  by_cases hr : RF s1 l1 s2 l2
  · obtain ⟨x, bx, hx⟩ := hr.two h1 h2
    exact ⟨_, fun w1 hb => ⟨ftext_any _ _ _ _ _ _ _ _ _ _ w1 (hx w1 hb) bx.n bx.d (FR.of x) (ht.below hb), rftext_any _ _ _ _ _ _ _ _ _ _ w1 (hx w1 hb) bx.n bx.d (FR.of x)⟩⟩
  · exact ⟨_, fun w1 hb => ⟨ftext_bad w1 (h1.later hb) (h2.later hb) hr, rftext_bad w1 (h1.later hb) (h2.later hb) hr⟩⟩
theorem bothf_floor (h1 : Ar w s1 l1 A1 n1 d1) (h2 : Ar w s2 l2 A2 n2 d2) : ∃ z, Both 57 58 #[.agg #[.int .i64 s1, .slice A1 n1 d1, .int .i64 s2, .slice A2 n2 d2]] w (OfP z) := by
  by_cases hr : RF s1 l1 s2 l2
  · obtain ⟨x, bx, hx⟩ := hr.two h1 h2
    by_cases he : ∃ z m, QR x.num x.den z m
    · obtain ⟨z, m, hz⟩ := he
      refine ⟨z, fun w1 hb => ⟨(ffloor_any _ _ _ _ _ _ _ _ _ _ w1 (hx w1 hb) bx.n bx.d (FR.of x)).mono ?_, (rffloor_any _ _ _ _ _ _ _ _ _ _ w1 (hx w1 hb) bx.n bx.d (FR.of x)).mono ?_⟩⟩
      all_goals
        rintro e w' ⟨r, z', m', he, hq, ho, hb'⟩
        obtain ⟨rfl, rfl⟩ := qr_one hz hq
        exact ⟨r, he, ho, hb'⟩
    · refine ⟨0, fun w1 hb => ⟨(ffloor_any _ _ _ _ _ _ _ _ _ _ w1 (hx w1 hb) bx.n bx.d (FR.of x)).mono ?_, (rffloor_any _ _ _ _ _ _ _ _ _ _ w1 (hx w1 hb) bx.n bx.d (FR.of x)).mono ?_⟩⟩
      all_goals
        rintro e w' ⟨r, z', m', _, hq, _, _⟩
        exact absurd ⟨z', m', hq⟩ he
  · exact ⟨0, fun w1 hb => ⟨(ffloor_bad w1 (h1.later hb) (h2.later hb) hr).mono fun _ _ h => ⟨_, h.1, BO.zero _ _, h.2⟩, (rffloor_bad w1 (h1.later hb) (h2.later hb) hr).mono fun _ _ h => ⟨_, h.1, BO.zero _ _, h.2⟩⟩⟩
end

end Go.Proofs.YtkjpfnbdlbnbkaaGreatDoor

namespace Go.Proofs.YtkjpfnbdlbnbkaaGreatDoor
open Go.RowKit

theorem fo_mono {w : World} {B B' : Nat} {r : Value} {p q : Int} (h : FO w B r p q) (hb : B' ≤ B) : FO w B' r p q := by
  obtain ⟨s1, A1, n1, c1, s2, A2, n2, c2, rfl, g1, g2⟩ := h
  exact ⟨s1, A1, n1, c1, s2, A2, n2, c2, rfl, g1.mono hb, g2.mono hb⟩
/-- Two owned fractions of the same parts are the same to the reference's Same. -/
theorem fsame_own {w : World} {B B' : Nat} {r1 r2 : Value} {p q : Int} (h1 : FO w B r1 p q) (h2 : FO w B' r2 p q) :
    Calls Tryz.prog 39 #[r1, r2] w fun e w' => e = .returned (.bool true) ∧ Below w.heap.size w w' := by
  obtain ⟨s1, A1, n1, c1, s2, A2, n2, c2, rfl⟩ := h1.form
  obtain ⟨s3, A3, n3, c3, s4, A4, n4, c4, rfl⟩ := h2.form
  exact fsame_any _ _ _ _ _ _ _ _ _ _ _ _ _ _ _ _ _ _ _ _ w h1.fv h2.fv true (decide_eq_true ⟨rfl, rfl⟩)
theorem sbig_own {w : World} {B B' : Nat} {r1 r2 : Value} {z : Int} (h1 : BO w B r1 z) (h2 : BO w B' r2 z) :
    Calls Tryz.prog 56 #[r1, r2] w fun e w' => e = .returned (.bool true) ∧ Below w.heap.size w w' := by
  have h := sameBig_any z z r1 r2 w h1.bv h2.bv
  rwa [decide_eq_true rfl] at h
/-- A result stored into a box that was there. -/
theorem putf {W w0 : World} {g : Nat} {a0 a1 a2 a3 : Value} {s s' : Int} {A A' : Option Addr} {n c n' c' : Nat}
    (hg : Blk W g 43 #[a0, a1, a2, a3]) (hT : Below w0.heap.size w0 W) (h0 : w0.heap.size ≤ g) :
    ∃ V, V = (((W.setCell ⟨g, 0, none⟩ (.int .i64 s)).setCell ⟨g, 1, none⟩ (.slice A n c)).setCell ⟨g, 2, none⟩ (.int .i64 s')).setCell ⟨g, 3, none⟩ (.slice A' n' c') ∧
      Below w0.heap.size w0 V ∧ V.heap.size = W.heap.size ∧ Blk V g 43 #[.int .i64 s, .slice A n c, .int .i64 s', .slice A' n' c'] ∧
      (∀ h t cs, Blk W h t cs → h ≠ g → Blk V h t cs) ∧ (∀ v p q B', FO W B' v p q → g < B' → FO V B' v p q) := by
  refine ⟨_, rfl, below_st4 hT h0 _ _ _ _, by simp, hg.set4 _ _ _ _, fun h t cs hb h1 => hb.far4 h1 _ _ _ _, ?_⟩
  intro v p q B' ho h1
  obtain ⟨s1, A1, n1, c1, s2, A2, n2, c2, rfl, g1, g2⟩ := ho
  exact ⟨s1, A1, n1, c1, s2, A2, n2, c2, rfl, g1.far4 h1 _ _ _ _, g2.far4 h1 _ _ _ _⟩

set_option maxRecDepth 100000 in
set_option maxHeartbeats 16000000 in
theorem ftells_any (s1 s2 s3 s4 p q : Int) (l1 l2 l3 l4 : List Int) (A1 A2 A3 A4 : Option Addr) (n1 d1 n2 d2 n3 d3 n4 d4 : Nat) (s : ByteArray) (w : World) (ht : TB w) (hp : isI p) (hq : isI q) (h1 : Ar w s1 l1 A1 n1 d1) (h2 : Ar w s2 l2 A2 n2 d2) (h3 : Ar w s3 l3 A3 n3 d3) (h4 : Ar w s4 l4 A4 n4 d4) :
    Calls Tryz.prog 4 #[.agg #[.int .i64 s1, .slice A1 n1 d1, .int .i64 s2, .slice A2 n2 d2], .agg #[.int .i64 s3, .slice A3 n3 d3, .int .i64 s4, .slice A4 n4 d4], .int .i64 p, .int .i64 q, .string s] w fun e w' => e = .returned (.bool true) ∧ Below w.heap.size w w' := by
  have HT := Lib.hid ht
  obtain ⟨Pa, Qa, Ea, hh⟩ := bothf_add h1 h2 h3 h4
  have HAD := Lib.hid hh; clear hh
  obtain ⟨Ps, Qs, Es, hh⟩ := bothf_sub h1 h2 h3 h4
  have HSU := Lib.hid hh; clear hh
  obtain ⟨Pm, Qm, Em, hh⟩ := bothf_mul h1 h2 h3 h4
  have HMU := Lib.hid hh; clear hh
  obtain ⟨Pd, Qd, Ed, hh⟩ := bothf_div h1 h2 h3 h4
  have HDI := Lib.hid hh; clear hh
  obtain ⟨Po, Qo, Eo, hh⟩ := bothf_of (w := w) hp hq
  have HOF := Lib.hid hh; clear hh
  obtain ⟨Pn, Qn, En, hh⟩ := bothf_new h1 h3
  have HNE := Lib.hid hh; clear hh
  obtain ⟨br, hh⟩ := bothf_right h1 h2
  have HRI := Lib.hid hh; clear hh
  obtain ⟨vc, hh⟩ := bothf_compare h1 h2 h3 h4
  have HCM := Lib.hid hh; clear hh
  obtain ⟨tx, hh⟩ := bothf_text h1 h2 ht
  have HTE := Lib.hid hh; clear hh
  obtain ⟨zf, hh⟩ := bothf_floor h1 h2
  have HFL := Lib.hid hh; clear hh
  clear ht hp hq
  go_enter Tryz.func4, Tryz.ntmps4
  go_wp2_with fail
  obtain ⟨W0, hW, hbx, qa, qb⟩ := afb2 h1 h2 h3 h4
  rw [← hW]
  clear hW h1 h2 h3 h4
  have ka := qa.blk
  have kb := qb.blk
  clear qa qb
  have hT := hbx
  (with_reducible refine (fsmall_any _ (HT.out.below hT)).mono ?_)
  rintro e u1 ⟨rfl, hb9⟩
  replace hT := hT.trans (hb9.mono hT.size)
  replace ka := ka.below hb9 ka.lt
  replace kb := kb.below hb9 kb.lt
  have za0 : _ = some (.int .i64 s1 : Value) := ka.cell 0
  have za1 : _ = some (.slice A1 n1 d1 : Value) := ka.cell 1
  have za2 : _ = some (.int .i64 s2 : Value) := ka.cell 2
  have za3 : _ = some (.slice A2 n2 d2 : Value) := ka.cell 3
  go_wp2_with fail
  clear za0 za1 za2 za3
  by_cases hc1 : n1 ≤ 40 ∧ n2 ≤ 40
  rotate_left
  · refine (ffew_any _ _ 40 _ _ _ _ _ _ _ false (by rw [decide_eq_false_iff_not]; omega)).mono ?_
    rintro e v ⟨rfl, hb⟩
    have hT := hT.trans (hb.mono hT.size)
    go_wp2_with fail
    go_ret
    exact ⟨rfl, hT⟩
  (with_reducible refine (ffew_any _ _ 40 _ _ _ _ _ _ _ true (by rw [decide_eq_true_eq]; omega)).mono ?_)
  rintro e u2 ⟨rfl, hb9⟩
  replace hT := hT.trans (hb9.mono hT.size)
  replace ka := ka.below hb9 ka.lt
  replace kb := kb.below hb9 kb.lt
  have zb0 : _ = some (.int .i64 s3 : Value) := kb.cell 0
  have zb1 : _ = some (.slice A3 n3 d3 : Value) := kb.cell 1
  have zb2 : _ = some (.int .i64 s4 : Value) := kb.cell 2
  have zb3 : _ = some (.slice A4 n4 d4 : Value) := kb.cell 3
  go_wp2_with fail
  clear zb0 zb1 zb2 zb3
  by_cases hc2 : n3 ≤ 40 ∧ n4 ≤ 40
  rotate_left
  · refine (ffew_any _ _ 40 _ _ _ _ _ _ _ false (by rw [decide_eq_false_iff_not]; omega)).mono ?_
    rintro e v ⟨rfl, hb⟩
    have hT := hT.trans (hb.mono hT.size)
    go_wp2_with fail
    go_ret
    exact ⟨rfl, hT⟩
  (with_reducible refine (ffew_any _ _ 40 _ _ _ _ _ _ _ true (by rw [decide_eq_true_eq]; omega)).mono ?_)
  rintro e u3 ⟨rfl, hb9⟩
  replace hT := hT.trans (hb9.mono hT.size)
  replace ka := ka.below hb9 ka.lt
  replace kb := kb.below hb9 kb.lt
  by_cases hss : s.size ≤ 300
  rotate_left
  · have hs1 : (300 : Int) < (s.size : Int) := by omega
    go_wp2_with fail
    go_ret
    exact ⟨rfl, hT⟩
  have hs1 : ¬ (300 : Int) < (s.size : Int) := by omega
  obtain ⟨Pr, Qr, Er, hrd⟩ := bothf_read (w := w) s hss
  have HRD := Lib.hid hrd; clear hrd hc1 hc2
  have za0 : _ = some (.int .i64 s1 : Value) := ka.cell 0
  have za1 : _ = some (.slice A1 n1 d1 : Value) := ka.cell 1
  have za2 : _ = some (.int .i64 s2 : Value) := ka.cell 2
  have za3 : _ = some (.slice A2 n2 d2 : Value) := ka.cell 3
  have zb0 : _ = some (.int .i64 s3 : Value) := kb.cell 0
  have zb1 : _ = some (.slice A3 n3 d3 : Value) := kb.cell 1
  have zb2 : _ = some (.int .i64 s4 : Value) := kb.cell 2
  have zb3 : _ = some (.slice A4 n4 d4 : Value) := kb.cell 3
  go_wp2_with fail
  clear za0 za1 za2 za3 zb0 zb1 zb2 zb3
  clear hs1 hss
  (with_reducible refine (HAD.out _ hT).1.mono ?_)
  rintro e u4 ⟨rd, rfl, hrd, hb9⟩
  replace hT := hT.trans (hb9.mono hT.size)
  replace ka := ka.below hb9 ka.lt
  replace kb := kb.below hb9 kb.lt
  obtain ⟨sd, Ad, nd, cd, yd, Bd, md, ed, rfl⟩ := hrd.form
  have lta_d := ka.lt
  have ltb_d := kb.lt
  have ged : w.heap.size ≤ u4.heap.size := hT.size
  obtain ⟨Wd, hW, hbx, kfd⟩ := fbox hrd
  have kd := kfd.blk
  clear kfd
  have kaz := ka.below hbx ka.lt
  have za0 : _ = some (.int .i64 s1 : Value) := kaz.cell 0
  have za1 : _ = some (.slice A1 n1 d1 : Value) := kaz.cell 1
  have za2 : _ = some (.int .i64 s2 : Value) := kaz.cell 2
  have za3 : _ = some (.slice A2 n2 d2 : Value) := kaz.cell 3
  have kbz := kb.below hbx kb.lt
  have zb0 : _ = some (.int .i64 s3 : Value) := kbz.cell 0
  have zb1 : _ = some (.slice A3 n3 d3 : Value) := kbz.cell 1
  have zb2 : _ = some (.int .i64 s4 : Value) := kbz.cell 2
  have zb3 : _ = some (.slice A4 n4 d4 : Value) := kbz.cell 3
  rw [hW] at za0 za1 za2 za3 zb0 zb1 zb2 zb3
  go_wp2_with fail
  clear za0 za1 za2 za3 zb0 zb1 zb2 zb3
  clear kaz
  clear kbz
  rw [← hW]
  clear hW
  replace hT := hT.trans (hbx.mono hT.size)
  replace ka := ka.below hbx ka.lt
  replace kb := kb.below hbx kb.lt
  replace hrd := hrd.below hbx
  (with_reducible refine (HAD.out _ hT).2.mono ?_)
  rintro e u5 ⟨re, rfl, hre, hb9⟩
  replace hT := hT.trans (hb9.mono hT.size)
  replace ka := ka.below hb9 ka.lt
  replace kb := kb.below hb9 kb.lt
  replace kd := kd.below hb9 kd.lt
  replace hrd := hrd.below hb9
  obtain ⟨se, Ae, ne, ce, ye, Be, me, ee, rfl⟩ := hre.form
  have lta_e := ka.lt
  have ltb_e := kb.lt
  have ltd_e := kd.lt
  have gee : w.heap.size ≤ u5.heap.size := hT.size
  obtain ⟨We, hW, hbx, kfe⟩ := fbox hre
  have ke := kfe.blk
  clear kfe
  have kaz := ka.below hbx ka.lt
  have za0 : _ = some (.int .i64 s1 : Value) := kaz.cell 0
  have za1 : _ = some (.slice A1 n1 d1 : Value) := kaz.cell 1
  have za2 : _ = some (.int .i64 s2 : Value) := kaz.cell 2
  have za3 : _ = some (.slice A2 n2 d2 : Value) := kaz.cell 3
  have kbz := kb.below hbx kb.lt
  have zb0 : _ = some (.int .i64 s3 : Value) := kbz.cell 0
  have zb1 : _ = some (.slice A3 n3 d3 : Value) := kbz.cell 1
  have zb2 : _ = some (.int .i64 s4 : Value) := kbz.cell 2
  have zb3 : _ = some (.slice A4 n4 d4 : Value) := kbz.cell 3
  rw [hW] at za0 za1 za2 za3 zb0 zb1 zb2 zb3
  go_wp2_with fail
  clear za0 za1 za2 za3 zb0 zb1 zb2 zb3
  clear kaz
  clear kbz
  rw [← hW]
  clear hW
  replace hT := hT.trans (hbx.mono hT.size)
  replace ka := ka.below hbx ka.lt
  replace kb := kb.below hbx kb.lt
  replace kd := kd.below hbx kd.lt
  replace hrd := hrd.below hbx
  replace hre := hre.below hbx
  (with_reducible refine (HSU.out _ hT).1.mono ?_)
  rintro e u6 ⟨rf, rfl, hrf, hb9⟩
  replace hT := hT.trans (hb9.mono hT.size)
  replace ka := ka.below hb9 ka.lt
  replace kb := kb.below hb9 kb.lt
  replace kd := kd.below hb9 kd.lt
  replace ke := ke.below hb9 ke.lt
  replace hrd := hrd.below hb9
  replace hre := hre.below hb9
  obtain ⟨sf, Af, nf, cf, yf, Bf, mf, ef, rfl⟩ := hrf.form
  have lta_f := ka.lt
  have ltb_f := kb.lt
  have ltd_f := kd.lt
  have lte_f := ke.lt
  have gef : w.heap.size ≤ u6.heap.size := hT.size
  obtain ⟨Wf, hW, hbx, kff⟩ := fbox hrf
  have kf := kff.blk
  clear kff
  have kaz := ka.below hbx ka.lt
  have za0 : _ = some (.int .i64 s1 : Value) := kaz.cell 0
  have za1 : _ = some (.slice A1 n1 d1 : Value) := kaz.cell 1
  have za2 : _ = some (.int .i64 s2 : Value) := kaz.cell 2
  have za3 : _ = some (.slice A2 n2 d2 : Value) := kaz.cell 3
  have kbz := kb.below hbx kb.lt
  have zb0 : _ = some (.int .i64 s3 : Value) := kbz.cell 0
  have zb1 : _ = some (.slice A3 n3 d3 : Value) := kbz.cell 1
  have zb2 : _ = some (.int .i64 s4 : Value) := kbz.cell 2
  have zb3 : _ = some (.slice A4 n4 d4 : Value) := kbz.cell 3
  rw [hW] at za0 za1 za2 za3 zb0 zb1 zb2 zb3
  go_wp2_with fail
  clear za0 za1 za2 za3 zb0 zb1 zb2 zb3
  clear kaz
  clear kbz
  rw [← hW]
  clear hW
  replace hT := hT.trans (hbx.mono hT.size)
  replace ka := ka.below hbx ka.lt
  replace kb := kb.below hbx kb.lt
  replace kd := kd.below hbx kd.lt
  replace ke := ke.below hbx ke.lt
  replace hrd := hrd.below hbx
  replace hre := hre.below hbx
  replace hrf := hrf.below hbx
  (with_reducible refine (HSU.out _ hT).2.mono ?_)
  rintro e u7 ⟨rg, rfl, hrg, hb9⟩
  replace hT := hT.trans (hb9.mono hT.size)
  replace ka := ka.below hb9 ka.lt
  replace kb := kb.below hb9 kb.lt
  replace kd := kd.below hb9 kd.lt
  replace ke := ke.below hb9 ke.lt
  replace kf := kf.below hb9 kf.lt
  replace hrd := hrd.below hb9
  replace hre := hre.below hb9
  replace hrf := hrf.below hb9
  obtain ⟨sg, Ag, ng, cg, yg, Bg, mg, eg, rfl⟩ := hrg.form
  have lta_g := ka.lt
  have ltb_g := kb.lt
  have ltd_g := kd.lt
  have lte_g := ke.lt
  have ltf_g := kf.lt
  have geg : w.heap.size ≤ u7.heap.size := hT.size
  obtain ⟨Wg, hW, hbx, kfg⟩ := fbox hrg
  have kg := kfg.blk
  clear kfg
  have kdz := kd.below hbx kd.lt
  have zd0 : _ = some (.int .i64 sd : Value) := kdz.cell 0
  have zd1 : _ = some (.slice Ad nd cd : Value) := kdz.cell 1
  have zd2 : _ = some (.int .i64 yd : Value) := kdz.cell 2
  have zd3 : _ = some (.slice Bd md ed : Value) := kdz.cell 3
  have kez := ke.below hbx ke.lt
  have ze0 : _ = some (.int .i64 se : Value) := kez.cell 0
  have ze1 : _ = some (.slice Ae ne ce : Value) := kez.cell 1
  have ze2 : _ = some (.int .i64 ye : Value) := kez.cell 2
  have ze3 : _ = some (.slice Be me ee : Value) := kez.cell 3
  rw [hW] at zd0 zd1 zd2 zd3 ze0 ze1 ze2 ze3
  go_wp2_with fail
  clear zd0 zd1 zd2 zd3 ze0 ze1 ze2 ze3
  clear kdz
  clear kez
  rw [← hW]
  clear hW
  replace hT := hT.trans (hbx.mono hT.size)
  replace ka := ka.below hbx ka.lt
  replace kb := kb.below hbx kb.lt
  replace kd := kd.below hbx kd.lt
  replace ke := ke.below hbx ke.lt
  replace kf := kf.below hbx kf.lt
  replace hrd := hrd.below hbx
  replace hre := hre.below hbx
  replace hrf := hrf.below hbx
  replace hrg := hrg.below hbx
  (with_reducible refine (fsame_own hrd hre).mono ?_)
  rintro e u8 ⟨rfl, hb9⟩
  replace hT := hT.trans (hb9.mono hT.size)
  replace ka := ka.below hb9 ka.lt
  replace kb := kb.below hb9 kb.lt
  replace kd := kd.below hb9 kd.lt
  replace ke := ke.below hb9 ke.lt
  replace kf := kf.below hb9 kf.lt
  replace kg := kg.below hb9 kg.lt
  replace hrd := hrd.below hb9
  replace hre := hre.below hb9
  replace hrf := hrf.below hb9
  replace hrg := hrg.below hb9
  have zf0 : _ = some (.int .i64 sf : Value) := kf.cell 0
  have zf1 : _ = some (.slice Af nf cf : Value) := kf.cell 1
  have zf2 : _ = some (.int .i64 yf : Value) := kf.cell 2
  have zf3 : _ = some (.slice Bf mf ef : Value) := kf.cell 3
  have zg0 : _ = some (.int .i64 sg : Value) := kg.cell 0
  have zg1 : _ = some (.slice Ag ng cg : Value) := kg.cell 1
  have zg2 : _ = some (.int .i64 yg : Value) := kg.cell 2
  have zg3 : _ = some (.slice Bg mg eg : Value) := kg.cell 3
  go_wp2_with fail
  clear zf0 zf1 zf2 zf3 zg0 zg1 zg2 zg3
  (with_reducible refine (fsame_own hrf hrg).mono ?_)
  rintro e u9 ⟨rfl, hb9⟩
  replace hT := hT.trans (hb9.mono hT.size)
  replace ka := ka.below hb9 ka.lt
  replace kb := kb.below hb9 kb.lt
  replace kd := kd.below hb9 kd.lt
  replace ke := ke.below hb9 ke.lt
  replace kf := kf.below hb9 kf.lt
  replace kg := kg.below hb9 kg.lt
  replace hrd := hrd.below hb9
  replace hre := hre.below hb9
  replace hrf := hrf.below hb9
  replace hrg := hrg.below hb9
  have za0 : _ = some (.int .i64 s1 : Value) := ka.cell 0
  have za1 : _ = some (.slice A1 n1 d1 : Value) := ka.cell 1
  have za2 : _ = some (.int .i64 s2 : Value) := ka.cell 2
  have za3 : _ = some (.slice A2 n2 d2 : Value) := ka.cell 3
  have zb0 : _ = some (.int .i64 s3 : Value) := kb.cell 0
  have zb1 : _ = some (.slice A3 n3 d3 : Value) := kb.cell 1
  have zb2 : _ = some (.int .i64 s4 : Value) := kb.cell 2
  have zb3 : _ = some (.slice A4 n4 d4 : Value) := kb.cell 3
  go_wp2_with fail
  clear za0 za1 za2 za3 zb0 zb1 zb2 zb3
  clear hrd hre hrf hrg
  clear HAD HSU
  obtain ⟨U0, hU0⟩ : ∃ U0, U0 = u9 := ⟨_, rfl⟩
  have hU : U0.heap.size ≤ u9.heap.size := by rw [hU0]; exact Nat.le_refl _
  have lud : u4.heap.size < U0.heap.size := by rw [hU0]; exact kd.lt
  have lue : u5.heap.size < U0.heap.size := by rw [hU0]; exact ke.lt
  have luf : u6.heap.size < U0.heap.size := by rw [hU0]; exact kf.lt
  have lug : u7.heap.size < U0.heap.size := by rw [hU0]; exact kg.lt
  clear hU0
  (with_reducible refine ((HMU.out _ hT).1).mono ?_)
  rintro e u10 ⟨rh, rfl, hrh, hb9⟩
  replace hrh := fo_mono hrh hU
  replace hT := hT.trans (hb9.mono hT.size)
  replace ka := ka.below hb9 ka.lt
  replace kb := kb.below hb9 kb.lt
  replace kd := kd.below hb9 kd.lt
  replace ke := ke.below hb9 ke.lt
  replace kf := kf.below hb9 kf.lt
  replace kg := kg.below hb9 kg.lt
  replace hU := Nat.le_trans hU hb9.size
  obtain ⟨sh, Ah, nh, ch, yh, Bh, mh, eh, rfl⟩ := hrh.form
  have t0 : _ = some (.int .i64 sd : Value) := kd.cell 0
  have f0 := kd.frozen 0
  have t1 : _ = some (.slice Ad nd cd : Value) := kd.cell 1
  have f1 := kd.frozen 1
  have t2 : _ = some (.int .i64 yd : Value) := kd.cell 2
  have f2 := kd.frozen 2
  have t3 : _ = some (.slice Bd md ed : Value) := kd.cell 3
  have f3 := kd.frozen 3
  obtain ⟨Vh, hV, hTV, hsz, kNew, hfar, hfaro⟩ := putf kd (s := sh) (A := Ah) (n := nh) (c := ch) (s' := yh) (A' := Bh) (n' := mh) (c' := eh) hT ged
  replace ka := hfar _ _ _ ka (Nat.ne_of_lt lta_d)
  replace kb := hfar _ _ _ kb (Nat.ne_of_lt ltb_d)
  replace ke := hfar _ _ _ ke (Nat.ne_of_gt ltd_e)
  replace kf := hfar _ _ _ kf (Nat.ne_of_gt ltd_f)
  replace kg := hfar _ _ _ kg (Nat.ne_of_gt ltd_g)
  replace hrh := hfaro _ _ _ _ hrh lud
  replace kd := kNew
  replace hT := hTV
  replace hU : U0.heap.size ≤ Vh.heap.size := by rw [hsz]; exact hU
  clear hfar hfaro kNew hTV hsz
  have za0 : _ = some (.int .i64 s1 : Value) := ka.cell 0
  have za1 : _ = some (.slice A1 n1 d1 : Value) := ka.cell 1
  have za2 : _ = some (.int .i64 s2 : Value) := ka.cell 2
  have za3 : _ = some (.slice A2 n2 d2 : Value) := ka.cell 3
  have zb0 : _ = some (.int .i64 s3 : Value) := kb.cell 0
  have zb1 : _ = some (.slice A3 n3 d3 : Value) := kb.cell 1
  have zb2 : _ = some (.int .i64 s4 : Value) := kb.cell 2
  have zb3 : _ = some (.slice A4 n4 d4 : Value) := kb.cell 3
  rw [hV] at za0 za1 za2 za3 zb0 zb1 zb2 zb3
  go_wp2_with fail
  clear t0 t1 t2 t3 f0 f1 f2 f3 za0 za1 za2 za3 zb0 zb1 zb2 zb3
  rw [← hV]
  clear hV
  (with_reducible refine ((HMU.out _ hT).2).mono ?_)
  rintro e u11 ⟨ri, rfl, hri, hb9⟩
  replace hri := fo_mono hri hU
  replace hT := hT.trans (hb9.mono hT.size)
  replace ka := ka.below hb9 ka.lt
  replace kb := kb.below hb9 kb.lt
  replace kd := kd.below hb9 kd.lt
  replace ke := ke.below hb9 ke.lt
  replace kf := kf.below hb9 kf.lt
  replace kg := kg.below hb9 kg.lt
  replace hrh := hrh.below hb9
  replace hU := Nat.le_trans hU hb9.size
  obtain ⟨si, Ai, ni, ci, yi, Bi, mi, ei, rfl⟩ := hri.form
  have t0 : _ = some (.int .i64 se : Value) := ke.cell 0
  have f0 := ke.frozen 0
  have t1 : _ = some (.slice Ae ne ce : Value) := ke.cell 1
  have f1 := ke.frozen 1
  have t2 : _ = some (.int .i64 ye : Value) := ke.cell 2
  have f2 := ke.frozen 2
  have t3 : _ = some (.slice Be me ee : Value) := ke.cell 3
  have f3 := ke.frozen 3
  obtain ⟨Vi, hV, hTV, hsz, kNew, hfar, hfaro⟩ := putf ke (s := si) (A := Ai) (n := ni) (c := ci) (s' := yi) (A' := Bi) (n' := mi) (c' := ei) hT gee
  replace ka := hfar _ _ _ ka (Nat.ne_of_lt lta_e)
  replace kb := hfar _ _ _ kb (Nat.ne_of_lt ltb_e)
  replace kd := hfar _ _ _ kd (Nat.ne_of_lt ltd_e)
  replace kf := hfar _ _ _ kf (Nat.ne_of_gt lte_f)
  replace kg := hfar _ _ _ kg (Nat.ne_of_gt lte_g)
  replace hrh := hfaro _ _ _ _ hrh lue
  replace hri := hfaro _ _ _ _ hri lue
  replace ke := kNew
  replace hT := hTV
  replace hU : U0.heap.size ≤ Vi.heap.size := by rw [hsz]; exact hU
  clear hfar hfaro kNew hTV hsz
  have za0 : _ = some (.int .i64 s1 : Value) := ka.cell 0
  have za1 : _ = some (.slice A1 n1 d1 : Value) := ka.cell 1
  have za2 : _ = some (.int .i64 s2 : Value) := ka.cell 2
  have za3 : _ = some (.slice A2 n2 d2 : Value) := ka.cell 3
  have zb0 : _ = some (.int .i64 s3 : Value) := kb.cell 0
  have zb1 : _ = some (.slice A3 n3 d3 : Value) := kb.cell 1
  have zb2 : _ = some (.int .i64 s4 : Value) := kb.cell 2
  have zb3 : _ = some (.slice A4 n4 d4 : Value) := kb.cell 3
  rw [hV] at za0 za1 za2 za3 zb0 zb1 zb2 zb3
  go_wp2_with fail
  clear t0 t1 t2 t3 f0 f1 f2 f3 za0 za1 za2 za3 zb0 zb1 zb2 zb3
  rw [← hV]
  clear hV
  (with_reducible refine ((HDI.out _ hT).1).mono ?_)
  rintro e u12 ⟨rj, rfl, hrj, hb9⟩
  replace hrj := fo_mono hrj hU
  replace hT := hT.trans (hb9.mono hT.size)
  replace ka := ka.below hb9 ka.lt
  replace kb := kb.below hb9 kb.lt
  replace kd := kd.below hb9 kd.lt
  replace ke := ke.below hb9 ke.lt
  replace kf := kf.below hb9 kf.lt
  replace kg := kg.below hb9 kg.lt
  replace hrh := hrh.below hb9
  replace hri := hri.below hb9
  replace hU := Nat.le_trans hU hb9.size
  obtain ⟨sj, Aj, nj, cj, yj, Bj, mj, ej, rfl⟩ := hrj.form
  have t0 : _ = some (.int .i64 sf : Value) := kf.cell 0
  have f0 := kf.frozen 0
  have t1 : _ = some (.slice Af nf cf : Value) := kf.cell 1
  have f1 := kf.frozen 1
  have t2 : _ = some (.int .i64 yf : Value) := kf.cell 2
  have f2 := kf.frozen 2
  have t3 : _ = some (.slice Bf mf ef : Value) := kf.cell 3
  have f3 := kf.frozen 3
  obtain ⟨Vj, hV, hTV, hsz, kNew, hfar, hfaro⟩ := putf kf (s := sj) (A := Aj) (n := nj) (c := cj) (s' := yj) (A' := Bj) (n' := mj) (c' := ej) hT gef
  replace ka := hfar _ _ _ ka (Nat.ne_of_lt lta_f)
  replace kb := hfar _ _ _ kb (Nat.ne_of_lt ltb_f)
  replace kd := hfar _ _ _ kd (Nat.ne_of_lt ltd_f)
  replace ke := hfar _ _ _ ke (Nat.ne_of_lt lte_f)
  replace kg := hfar _ _ _ kg (Nat.ne_of_gt ltf_g)
  replace hrh := hfaro _ _ _ _ hrh luf
  replace hri := hfaro _ _ _ _ hri luf
  replace hrj := hfaro _ _ _ _ hrj luf
  replace kf := kNew
  replace hT := hTV
  replace hU : U0.heap.size ≤ Vj.heap.size := by rw [hsz]; exact hU
  clear hfar hfaro kNew hTV hsz
  have za0 : _ = some (.int .i64 s1 : Value) := ka.cell 0
  have za1 : _ = some (.slice A1 n1 d1 : Value) := ka.cell 1
  have za2 : _ = some (.int .i64 s2 : Value) := ka.cell 2
  have za3 : _ = some (.slice A2 n2 d2 : Value) := ka.cell 3
  have zb0 : _ = some (.int .i64 s3 : Value) := kb.cell 0
  have zb1 : _ = some (.slice A3 n3 d3 : Value) := kb.cell 1
  have zb2 : _ = some (.int .i64 s4 : Value) := kb.cell 2
  have zb3 : _ = some (.slice A4 n4 d4 : Value) := kb.cell 3
  rw [hV] at za0 za1 za2 za3 zb0 zb1 zb2 zb3
  go_wp2_with fail
  clear t0 t1 t2 t3 f0 f1 f2 f3 za0 za1 za2 za3 zb0 zb1 zb2 zb3
  rw [← hV]
  clear hV
  (with_reducible refine ((HDI.out _ hT).2).mono ?_)
  rintro e u13 ⟨rl, rfl, hrl, hb9⟩
  replace hrl := fo_mono hrl hU
  replace hT := hT.trans (hb9.mono hT.size)
  replace ka := ka.below hb9 ka.lt
  replace kb := kb.below hb9 kb.lt
  replace kd := kd.below hb9 kd.lt
  replace ke := ke.below hb9 ke.lt
  replace kf := kf.below hb9 kf.lt
  replace kg := kg.below hb9 kg.lt
  replace hrh := hrh.below hb9
  replace hri := hri.below hb9
  replace hrj := hrj.below hb9
  replace hU := Nat.le_trans hU hb9.size
  obtain ⟨sl, Al, nl, cl, yl, Bl, ml, el, rfl⟩ := hrl.form
  have t0 : _ = some (.int .i64 sg : Value) := kg.cell 0
  have f0 := kg.frozen 0
  have t1 : _ = some (.slice Ag ng cg : Value) := kg.cell 1
  have f1 := kg.frozen 1
  have t2 : _ = some (.int .i64 yg : Value) := kg.cell 2
  have f2 := kg.frozen 2
  have t3 : _ = some (.slice Bg mg eg : Value) := kg.cell 3
  have f3 := kg.frozen 3
  obtain ⟨Vl, hV, hTV, hsz, kNew, hfar, hfaro⟩ := putf kg (s := sl) (A := Al) (n := nl) (c := cl) (s' := yl) (A' := Bl) (n' := ml) (c' := el) hT geg
  replace ka := hfar _ _ _ ka (Nat.ne_of_lt lta_g)
  replace kb := hfar _ _ _ kb (Nat.ne_of_lt ltb_g)
  replace kd := hfar _ _ _ kd (Nat.ne_of_lt ltd_g)
  replace ke := hfar _ _ _ ke (Nat.ne_of_lt lte_g)
  replace kf := hfar _ _ _ kf (Nat.ne_of_lt ltf_g)
  replace hrh := hfaro _ _ _ _ hrh lug
  replace hri := hfaro _ _ _ _ hri lug
  replace hrj := hfaro _ _ _ _ hrj lug
  replace hrl := hfaro _ _ _ _ hrl lug
  replace kg := kNew
  replace hT := hTV
  replace hU : U0.heap.size ≤ Vl.heap.size := by rw [hsz]; exact hU
  clear hfar hfaro kNew hTV hsz
  have zd0 : _ = some (.int .i64 sh : Value) := kd.cell 0
  have zd1 : _ = some (.slice Ah nh ch : Value) := kd.cell 1
  have zd2 : _ = some (.int .i64 yh : Value) := kd.cell 2
  have zd3 : _ = some (.slice Bh mh eh : Value) := kd.cell 3
  have ze0 : _ = some (.int .i64 si : Value) := ke.cell 0
  have ze1 : _ = some (.slice Ai ni ci : Value) := ke.cell 1
  have ze2 : _ = some (.int .i64 yi : Value) := ke.cell 2
  have ze3 : _ = some (.slice Bi mi ei : Value) := ke.cell 3
  rw [hV] at zd0 zd1 zd2 zd3 ze0 ze1 ze2 ze3
  go_wp2_with fail
  clear t0 t1 t2 t3 f0 f1 f2 f3 zd0 zd1 zd2 zd3 ze0 ze1 ze2 ze3
  rw [← hV]
  clear hV
  (with_reducible refine (fsame_own hrh hri).mono ?_)
  rintro e u14 ⟨rfl, hb9⟩
  replace hT := hT.trans (hb9.mono hT.size)
  replace ka := ka.below hb9 ka.lt
  replace kb := kb.below hb9 kb.lt
  replace kd := kd.below hb9 kd.lt
  replace ke := ke.below hb9 ke.lt
  replace kf := kf.below hb9 kf.lt
  replace kg := kg.below hb9 kg.lt
  replace hrh := hrh.below hb9
  replace hri := hri.below hb9
  replace hrj := hrj.below hb9
  replace hrl := hrl.below hb9
  replace hU := Nat.le_trans hU hb9.size
  have zf0 : _ = some (.int .i64 sj : Value) := kf.cell 0
  have zf1 : _ = some (.slice Aj nj cj : Value) := kf.cell 1
  have zf2 : _ = some (.int .i64 yj : Value) := kf.cell 2
  have zf3 : _ = some (.slice Bj mj ej : Value) := kf.cell 3
  have zg0 : _ = some (.int .i64 sl : Value) := kg.cell 0
  have zg1 : _ = some (.slice Al nl cl : Value) := kg.cell 1
  have zg2 : _ = some (.int .i64 yl : Value) := kg.cell 2
  have zg3 : _ = some (.slice Bl ml el : Value) := kg.cell 3
  go_wp2_with fail
  clear zf0 zf1 zf2 zf3 zg0 zg1 zg2 zg3
  (with_reducible refine (fsame_own hrj hrl).mono ?_)
  rintro e u15 ⟨rfl, hb9⟩
  replace hT := hT.trans (hb9.mono hT.size)
  replace ka := ka.below hb9 ka.lt
  replace kb := kb.below hb9 kb.lt
  replace kd := kd.below hb9 kd.lt
  replace ke := ke.below hb9 ke.lt
  replace kf := kf.below hb9 kf.lt
  replace kg := kg.below hb9 kg.lt
  replace hrh := hrh.below hb9
  replace hri := hri.below hb9
  replace hrj := hrj.below hb9
  replace hrl := hrl.below hb9
  replace hU := Nat.le_trans hU hb9.size
  go_wp2_with fail
  clear hrh hri hrj hrl
  clear HMU HDI
  (with_reducible refine ((HOF.out _ hT).1).mono ?_)
  rintro e u16 ⟨rm, rfl, hrm, hb9⟩
  replace hrm := fo_mono hrm hU
  replace hT := hT.trans (hb9.mono hT.size)
  replace ka := ka.below hb9 ka.lt
  replace kb := kb.below hb9 kb.lt
  replace kd := kd.below hb9 kd.lt
  replace ke := ke.below hb9 ke.lt
  replace kf := kf.below hb9 kf.lt
  replace kg := kg.below hb9 kg.lt
  replace hU := Nat.le_trans hU hb9.size
  obtain ⟨sm, Am, nm, cm, ym, Bm, mm, em, rfl⟩ := hrm.form
  have t0 : _ = some (.int .i64 sh : Value) := kd.cell 0
  have f0 := kd.frozen 0
  have t1 : _ = some (.slice Ah nh ch : Value) := kd.cell 1
  have f1 := kd.frozen 1
  have t2 : _ = some (.int .i64 yh : Value) := kd.cell 2
  have f2 := kd.frozen 2
  have t3 : _ = some (.slice Bh mh eh : Value) := kd.cell 3
  have f3 := kd.frozen 3
  obtain ⟨Vm, hV, hTV, hsz, kNew, hfar, hfaro⟩ := putf kd (s := sm) (A := Am) (n := nm) (c := cm) (s' := ym) (A' := Bm) (n' := mm) (c' := em) hT ged
  replace ka := hfar _ _ _ ka (Nat.ne_of_lt lta_d)
  replace kb := hfar _ _ _ kb (Nat.ne_of_lt ltb_d)
  replace ke := hfar _ _ _ ke (Nat.ne_of_gt ltd_e)
  replace kf := hfar _ _ _ kf (Nat.ne_of_gt ltd_f)
  replace kg := hfar _ _ _ kg (Nat.ne_of_gt ltd_g)
  replace hrm := hfaro _ _ _ _ hrm lud
  replace kd := kNew
  replace hT := hTV
  replace hU : U0.heap.size ≤ Vm.heap.size := by rw [hsz]; exact hU
  clear hfar hfaro kNew hTV hsz
  go_wp2_with fail
  clear t0 t1 t2 t3 f0 f1 f2 f3 
  rw [← hV]
  clear hV
  (with_reducible refine ((HOF.out _ hT).2).mono ?_)
  rintro e u17 ⟨rn, rfl, hrn, hb9⟩
  replace hrn := fo_mono hrn hU
  replace hT := hT.trans (hb9.mono hT.size)
  replace ka := ka.below hb9 ka.lt
  replace kb := kb.below hb9 kb.lt
  replace kd := kd.below hb9 kd.lt
  replace ke := ke.below hb9 ke.lt
  replace kf := kf.below hb9 kf.lt
  replace kg := kg.below hb9 kg.lt
  replace hrm := hrm.below hb9
  replace hU := Nat.le_trans hU hb9.size
  obtain ⟨sn, An, nn, cn, yn, Bn, mn, en, rfl⟩ := hrn.form
  have t0 : _ = some (.int .i64 si : Value) := ke.cell 0
  have f0 := ke.frozen 0
  have t1 : _ = some (.slice Ai ni ci : Value) := ke.cell 1
  have f1 := ke.frozen 1
  have t2 : _ = some (.int .i64 yi : Value) := ke.cell 2
  have f2 := ke.frozen 2
  have t3 : _ = some (.slice Bi mi ei : Value) := ke.cell 3
  have f3 := ke.frozen 3
  obtain ⟨Vn, hV, hTV, hsz, kNew, hfar, hfaro⟩ := putf ke (s := sn) (A := An) (n := nn) (c := cn) (s' := yn) (A' := Bn) (n' := mn) (c' := en) hT gee
  replace ka := hfar _ _ _ ka (Nat.ne_of_lt lta_e)
  replace kb := hfar _ _ _ kb (Nat.ne_of_lt ltb_e)
  replace kd := hfar _ _ _ kd (Nat.ne_of_lt ltd_e)
  replace kf := hfar _ _ _ kf (Nat.ne_of_gt lte_f)
  replace kg := hfar _ _ _ kg (Nat.ne_of_gt lte_g)
  replace hrm := hfaro _ _ _ _ hrm lue
  replace hrn := hfaro _ _ _ _ hrn lue
  replace ke := kNew
  replace hT := hTV
  replace hU : U0.heap.size ≤ Vn.heap.size := by rw [hsz]; exact hU
  clear hfar hfaro kNew hTV hsz
  go_wp2_with fail
  clear t0 t1 t2 t3 f0 f1 f2 f3 
  rw [← hV]
  clear hV
  (with_reducible refine ((HRD.out _ hT).1).mono ?_)
  rintro e u18 ⟨ro, rfl, hro, hb9⟩
  replace hro := fo_mono hro hU
  replace hT := hT.trans (hb9.mono hT.size)
  replace ka := ka.below hb9 ka.lt
  replace kb := kb.below hb9 kb.lt
  replace kd := kd.below hb9 kd.lt
  replace ke := ke.below hb9 ke.lt
  replace kf := kf.below hb9 kf.lt
  replace kg := kg.below hb9 kg.lt
  replace hrm := hrm.below hb9
  replace hrn := hrn.below hb9
  replace hU := Nat.le_trans hU hb9.size
  obtain ⟨so, Ao, no, co, yo, Bo, mo, eo, rfl⟩ := hro.form
  have t0 : _ = some (.int .i64 sj : Value) := kf.cell 0
  have f0 := kf.frozen 0
  have t1 : _ = some (.slice Aj nj cj : Value) := kf.cell 1
  have f1 := kf.frozen 1
  have t2 : _ = some (.int .i64 yj : Value) := kf.cell 2
  have f2 := kf.frozen 2
  have t3 : _ = some (.slice Bj mj ej : Value) := kf.cell 3
  have f3 := kf.frozen 3
  obtain ⟨Vo, hV, hTV, hsz, kNew, hfar, hfaro⟩ := putf kf (s := so) (A := Ao) (n := no) (c := co) (s' := yo) (A' := Bo) (n' := mo) (c' := eo) hT gef
  replace ka := hfar _ _ _ ka (Nat.ne_of_lt lta_f)
  replace kb := hfar _ _ _ kb (Nat.ne_of_lt ltb_f)
  replace kd := hfar _ _ _ kd (Nat.ne_of_lt ltd_f)
  replace ke := hfar _ _ _ ke (Nat.ne_of_lt lte_f)
  replace kg := hfar _ _ _ kg (Nat.ne_of_gt ltf_g)
  replace hrm := hfaro _ _ _ _ hrm luf
  replace hrn := hfaro _ _ _ _ hrn luf
  replace hro := hfaro _ _ _ _ hro luf
  replace kf := kNew
  replace hT := hTV
  replace hU : U0.heap.size ≤ Vo.heap.size := by rw [hsz]; exact hU
  clear hfar hfaro kNew hTV hsz
  go_wp2_with fail
  clear t0 t1 t2 t3 f0 f1 f2 f3 
  rw [← hV]
  clear hV
  (with_reducible refine ((HRD.out _ hT).2).mono ?_)
  rintro e u19 ⟨rv, rfl, hrv, hb9⟩
  replace hrv := fo_mono hrv hU
  replace hT := hT.trans (hb9.mono hT.size)
  replace ka := ka.below hb9 ka.lt
  replace kb := kb.below hb9 kb.lt
  replace kd := kd.below hb9 kd.lt
  replace ke := ke.below hb9 ke.lt
  replace kf := kf.below hb9 kf.lt
  replace kg := kg.below hb9 kg.lt
  replace hrm := hrm.below hb9
  replace hrn := hrn.below hb9
  replace hro := hro.below hb9
  replace hU := Nat.le_trans hU hb9.size
  obtain ⟨sv, Av, nv, cv, yv, Bv, mv, ev, rfl⟩ := hrv.form
  have t0 : _ = some (.int .i64 sl : Value) := kg.cell 0
  have f0 := kg.frozen 0
  have t1 : _ = some (.slice Al nl cl : Value) := kg.cell 1
  have f1 := kg.frozen 1
  have t2 : _ = some (.int .i64 yl : Value) := kg.cell 2
  have f2 := kg.frozen 2
  have t3 : _ = some (.slice Bl ml el : Value) := kg.cell 3
  have f3 := kg.frozen 3
  obtain ⟨Vv, hV, hTV, hsz, kNew, hfar, hfaro⟩ := putf kg (s := sv) (A := Av) (n := nv) (c := cv) (s' := yv) (A' := Bv) (n' := mv) (c' := ev) hT geg
  replace ka := hfar _ _ _ ka (Nat.ne_of_lt lta_g)
  replace kb := hfar _ _ _ kb (Nat.ne_of_lt ltb_g)
  replace kd := hfar _ _ _ kd (Nat.ne_of_lt ltd_g)
  replace ke := hfar _ _ _ ke (Nat.ne_of_lt lte_g)
  replace kf := hfar _ _ _ kf (Nat.ne_of_lt ltf_g)
  replace hrm := hfaro _ _ _ _ hrm lug
  replace hrn := hfaro _ _ _ _ hrn lug
  replace hro := hfaro _ _ _ _ hro lug
  replace hrv := hfaro _ _ _ _ hrv lug
  replace kg := kNew
  replace hT := hTV
  replace hU : U0.heap.size ≤ Vv.heap.size := by rw [hsz]; exact hU
  clear hfar hfaro kNew hTV hsz
  have zd0 : _ = some (.int .i64 sm : Value) := kd.cell 0
  have zd1 : _ = some (.slice Am nm cm : Value) := kd.cell 1
  have zd2 : _ = some (.int .i64 ym : Value) := kd.cell 2
  have zd3 : _ = some (.slice Bm mm em : Value) := kd.cell 3
  have ze0 : _ = some (.int .i64 sn : Value) := ke.cell 0
  have ze1 : _ = some (.slice An nn cn : Value) := ke.cell 1
  have ze2 : _ = some (.int .i64 yn : Value) := ke.cell 2
  have ze3 : _ = some (.slice Bn mn en : Value) := ke.cell 3
  rw [hV] at zd0 zd1 zd2 zd3 ze0 ze1 ze2 ze3
  go_wp2_with fail
  clear t0 t1 t2 t3 f0 f1 f2 f3 zd0 zd1 zd2 zd3 ze0 ze1 ze2 ze3
  rw [← hV]
  clear hV
  (with_reducible refine (fsame_own hrm hrn).mono ?_)
  rintro e u20 ⟨rfl, hb9⟩
  replace hT := hT.trans (hb9.mono hT.size)
  replace ka := ka.below hb9 ka.lt
  replace kb := kb.below hb9 kb.lt
  replace kd := kd.below hb9 kd.lt
  replace ke := ke.below hb9 ke.lt
  replace kf := kf.below hb9 kf.lt
  replace kg := kg.below hb9 kg.lt
  replace hrm := hrm.below hb9
  replace hrn := hrn.below hb9
  replace hro := hro.below hb9
  replace hrv := hrv.below hb9
  replace hU := Nat.le_trans hU hb9.size
  have zf0 : _ = some (.int .i64 so : Value) := kf.cell 0
  have zf1 : _ = some (.slice Ao no co : Value) := kf.cell 1
  have zf2 : _ = some (.int .i64 yo : Value) := kf.cell 2
  have zf3 : _ = some (.slice Bo mo eo : Value) := kf.cell 3
  have zg0 : _ = some (.int .i64 sv : Value) := kg.cell 0
  have zg1 : _ = some (.slice Av nv cv : Value) := kg.cell 1
  have zg2 : _ = some (.int .i64 yv : Value) := kg.cell 2
  have zg3 : _ = some (.slice Bv mv ev : Value) := kg.cell 3
  go_wp2_with fail
  clear zf0 zf1 zf2 zf3 zg0 zg1 zg2 zg3
  (with_reducible refine (fsame_own hro hrv).mono ?_)
  rintro e u21 ⟨rfl, hb9⟩
  replace hT := hT.trans (hb9.mono hT.size)
  replace ka := ka.below hb9 ka.lt
  replace kb := kb.below hb9 kb.lt
  replace kd := kd.below hb9 kd.lt
  replace ke := ke.below hb9 ke.lt
  replace kf := kf.below hb9 kf.lt
  replace kg := kg.below hb9 kg.lt
  replace hrm := hrm.below hb9
  replace hrn := hrn.below hb9
  replace hro := hro.below hb9
  replace hrv := hrv.below hb9
  replace hU := Nat.le_trans hU hb9.size
  have za0 : _ = some (.int .i64 s1 : Value) := ka.cell 0
  have za1 : _ = some (.slice A1 n1 d1 : Value) := ka.cell 1
  have zb0 : _ = some (.int .i64 s3 : Value) := kb.cell 0
  have zb1 : _ = some (.slice A3 n3 d3 : Value) := kb.cell 1
  go_wp2_with fail
  clear za0 za1 zb0 zb1
  clear hrm hrn hro hrv
  clear HOF HRD
  (with_reducible refine ((HNE.out _ hT).1).mono ?_)
  rintro e u22 ⟨rx, rfl, hrx, hb9⟩
  replace hrx := fo_mono hrx hU
  replace hT := hT.trans (hb9.mono hT.size)
  replace ka := ka.below hb9 ka.lt
  replace kb := kb.below hb9 kb.lt
  replace kd := kd.below hb9 kd.lt
  replace ke := ke.below hb9 ke.lt
  replace kf := kf.below hb9 kf.lt
  replace kg := kg.below hb9 kg.lt
  replace hU := Nat.le_trans hU hb9.size
  obtain ⟨sx, Ax, nx, cx, yx, Bx, mx, ex, rfl⟩ := hrx.form
  have t0 : _ = some (.int .i64 sm : Value) := kd.cell 0
  have f0 := kd.frozen 0
  have t1 : _ = some (.slice Am nm cm : Value) := kd.cell 1
  have f1 := kd.frozen 1
  have t2 : _ = some (.int .i64 ym : Value) := kd.cell 2
  have f2 := kd.frozen 2
  have t3 : _ = some (.slice Bm mm em : Value) := kd.cell 3
  have f3 := kd.frozen 3
  obtain ⟨Vx, hV, hTV, hsz, kNew, hfar, hfaro⟩ := putf kd (s := sx) (A := Ax) (n := nx) (c := cx) (s' := yx) (A' := Bx) (n' := mx) (c' := ex) hT ged
  replace ka := hfar _ _ _ ka (Nat.ne_of_lt lta_d)
  replace kb := hfar _ _ _ kb (Nat.ne_of_lt ltb_d)
  replace ke := hfar _ _ _ ke (Nat.ne_of_gt ltd_e)
  replace kf := hfar _ _ _ kf (Nat.ne_of_gt ltd_f)
  replace kg := hfar _ _ _ kg (Nat.ne_of_gt ltd_g)
  replace hrx := hfaro _ _ _ _ hrx lud
  replace kd := kNew
  replace hT := hTV
  replace hU : U0.heap.size ≤ Vx.heap.size := by rw [hsz]; exact hU
  clear hfar hfaro kNew hTV hsz
  have za0 : _ = some (.int .i64 s1 : Value) := ka.cell 0
  have za1 : _ = some (.slice A1 n1 d1 : Value) := ka.cell 1
  have zb0 : _ = some (.int .i64 s3 : Value) := kb.cell 0
  have zb1 : _ = some (.slice A3 n3 d3 : Value) := kb.cell 1
  rw [hV] at za0 za1 zb0 zb1
  go_wp2_with fail
  clear t0 t1 t2 t3 f0 f1 f2 f3 za0 za1 zb0 zb1
  rw [← hV]
  clear hV
  (with_reducible refine ((HNE.out _ hT).2).mono ?_)
  rintro e u23 ⟨rz, rfl, hrz, hb9⟩
  replace hrz := fo_mono hrz hU
  replace hT := hT.trans (hb9.mono hT.size)
  replace ka := ka.below hb9 ka.lt
  replace kb := kb.below hb9 kb.lt
  replace kd := kd.below hb9 kd.lt
  replace ke := ke.below hb9 ke.lt
  replace kf := kf.below hb9 kf.lt
  replace kg := kg.below hb9 kg.lt
  replace hrx := hrx.below hb9
  replace hU := Nat.le_trans hU hb9.size
  obtain ⟨sz, Az, nz, cz, yz, Bz, mz, ez, rfl⟩ := hrz.form
  have t0 : _ = some (.int .i64 sn : Value) := ke.cell 0
  have f0 := ke.frozen 0
  have t1 : _ = some (.slice An nn cn : Value) := ke.cell 1
  have f1 := ke.frozen 1
  have t2 : _ = some (.int .i64 yn : Value) := ke.cell 2
  have f2 := ke.frozen 2
  have t3 : _ = some (.slice Bn mn en : Value) := ke.cell 3
  have f3 := ke.frozen 3
  obtain ⟨Vz, hV, hTV, hsz, kNew, hfar, hfaro⟩ := putf ke (s := sz) (A := Az) (n := nz) (c := cz) (s' := yz) (A' := Bz) (n' := mz) (c' := ez) hT gee
  replace ka := hfar _ _ _ ka (Nat.ne_of_lt lta_e)
  replace kb := hfar _ _ _ kb (Nat.ne_of_lt ltb_e)
  replace kd := hfar _ _ _ kd (Nat.ne_of_lt ltd_e)
  replace kf := hfar _ _ _ kf (Nat.ne_of_gt lte_f)
  replace kg := hfar _ _ _ kg (Nat.ne_of_gt lte_g)
  replace hrx := hfaro _ _ _ _ hrx lue
  replace hrz := hfaro _ _ _ _ hrz lue
  replace ke := kNew
  replace hT := hTV
  replace hU : U0.heap.size ≤ Vz.heap.size := by rw [hsz]; exact hU
  clear hfar hfaro kNew hTV hsz
  go_wp2_with fail
  clear t0 t1 t2 t3 f0 f1 f2 f3 
  rw [← hV]
  clear hV
  clear HNE
  have e0 : ∀ W' : World, Below Vz.heap.size Vz W' → W'.cell? ⟨u4.heap.size, 0, none⟩ = some (.int .i64 sx) ∧ W'.cell? ⟨u4.heap.size, 1, none⟩ = some (.slice Ax nx cx) ∧ W'.cell? ⟨u4.heap.size, 2, none⟩ = some (.int .i64 yx) ∧ W'.cell? ⟨u4.heap.size, 3, none⟩ = some (.slice Bx mx ex) ∧ W'.cell? ⟨u5.heap.size, 0, none⟩ = some (.int .i64 sz) ∧ W'.cell? ⟨u5.heap.size, 1, none⟩ = some (.slice Az nz cz) ∧ W'.cell? ⟨u5.heap.size, 2, none⟩ = some (.int .i64 yz) ∧ W'.cell? ⟨u5.heap.size, 3, none⟩ = some (.slice Bz mz ez) ∧ W'.cell? ⟨w.heap.size, 0, none⟩ = some (.int .i64 s1) ∧ W'.cell? ⟨w.heap.size, 1, none⟩ = some (.slice A1 n1 d1) ∧ W'.cell? ⟨w.heap.size, 2, none⟩ = some (.int .i64 s2) ∧ W'.cell? ⟨w.heap.size, 3, none⟩ = some (.slice A2 n2 d2) ∧ W'.cell? ⟨w.heap.size + 1, 0, none⟩ = some (.int .i64 s3) ∧ W'.cell? ⟨w.heap.size + 1, 1, none⟩ = some (.slice A3 n3 d3) ∧ W'.cell? ⟨w.heap.size + 1, 2, none⟩ = some (.int .i64 s4) ∧ W'.cell? ⟨w.heap.size + 1, 3, none⟩ = some (.slice A4 n4 d4) ∧ Below Vz.heap.size Vz W' := fun W' hW =>
    ⟨(kd.below hW kd.lt).cell 0, (kd.below hW kd.lt).cell 1, (kd.below hW kd.lt).cell 2, (kd.below hW kd.lt).cell 3, (ke.below hW ke.lt).cell 0, (ke.below hW ke.lt).cell 1, (ke.below hW ke.lt).cell 2, (ke.below hW ke.lt).cell 3, (ka.below hW ka.lt).cell 0, (ka.below hW ka.lt).cell 1, (ka.below hW ka.lt).cell 2, (ka.below hW ka.lt).cell 3, (kb.below hW kb.lt).cell 0, (kb.below hW kb.lt).cell 1, (kb.below hW kb.lt).cell 2, (kb.below hW kb.lt).cell 3, hW⟩
  have E0 := Lib.hid e0; clear e0
  have hB00 : Below Vz.heap.size Vz Vz.drew := (Below.refl _ _).drew
  have hsm := fun (W' : World) (hb : Below Vz.heap.size Vz W') => fsame_own (hrx.below hb) (hrz.below hb)
  have HSM := Lib.hid hsm; clear hsm
  have hTs := hT.size
  go_wp2_with fail
  go_region_held3 (fun W' => W'.cell? ⟨u4.heap.size, 0, none⟩ = some (.int .i64 sx) ∧ W'.cell? ⟨u4.heap.size, 1, none⟩ = some (.slice Ax nx cx) ∧ W'.cell? ⟨u4.heap.size, 2, none⟩ = some (.int .i64 yx) ∧ W'.cell? ⟨u4.heap.size, 3, none⟩ = some (.slice Bx mx ex) ∧ W'.cell? ⟨u5.heap.size, 0, none⟩ = some (.int .i64 sz) ∧ W'.cell? ⟨u5.heap.size, 1, none⟩ = some (.slice Az nz cz) ∧ W'.cell? ⟨u5.heap.size, 2, none⟩ = some (.int .i64 yz) ∧ W'.cell? ⟨u5.heap.size, 3, none⟩ = some (.slice Bz mz ez) ∧ W'.cell? ⟨w.heap.size, 0, none⟩ = some (.int .i64 s1) ∧ W'.cell? ⟨w.heap.size, 1, none⟩ = some (.slice A1 n1 d1) ∧ W'.cell? ⟨w.heap.size, 2, none⟩ = some (.int .i64 s2) ∧ W'.cell? ⟨w.heap.size, 3, none⟩ = some (.slice A2 n2 d2) ∧ W'.cell? ⟨w.heap.size + 1, 0, none⟩ = some (.int .i64 s3) ∧ W'.cell? ⟨w.heap.size + 1, 1, none⟩ = some (.slice A3 n3 d3) ∧ W'.cell? ⟨w.heap.size + 1, 2, none⟩ = some (.int .i64 s4) ∧ W'.cell? ⟨w.heap.size + 1, 3, none⟩ = some (.slice A4 n4 d4) ∧ Below Vz.heap.size Vz W')
    (first | exact E0.out _ (by assumption) | exact E0.out _ ⟨rfl, rfl, rfl, Nat.le_refl _, fun _ _ => rfl⟩)
    (first
      | (go_at_call 53; have _h := hB4; refine ((HCM.out _ (hT.trans (hB4.mono hTs))).2).mono ?_; rintro e xx5 ⟨rfl, hb5⟩; have hB5 : Below Vz.heap.size Vz xx5 := hB4.trans (hb5.mono hB4.size))
      | (go_at_call 52; have _h := hB3; refine ((HCM.out _ (hT.trans (hB3.mono hTs))).1).mono ?_; rintro e xx4 ⟨rfl, hb4⟩; have hB4 : Below Vz.heap.size Vz xx4 := hB3.trans (hb4.mono hB3.size))
      | (go_at_call 51; have _h := hB2; refine ((HRI.out _ (hT.trans (hB2.mono hTs))).2).mono ?_; rintro e xx3 ⟨rfl, hb3⟩; have hB3 : Below Vz.heap.size Vz xx3 := hB2.trans (hb3.mono hB2.size))
      | (go_at_call 50; have _h := hB1; refine ((HRI.out _ (hT.trans (hB1.mono hTs))).1).mono ?_; rintro e xx2 ⟨rfl, hb2⟩; have hB2 : Below Vz.heap.size Vz xx2 := hB1.trans (hb2.mono hB1.size))
      | (go_at_call 39; refine (HSM.out _ hB00).mono ?_; rintro e xx1 ⟨rfl, hb1⟩; have hB1 : Below Vz.heap.size Vz xx1 := ⟨hb1.os, hb1.tape, hb1.output, hb1.size, hb1.block⟩))
  clear E0 hB00 hTs
  clear hrx hrz
  clear kd ke kf kg HSM hU
  replace hT := hT.trans (hB5.mono hT.size)
  replace ka := ka.below hB5 ka.lt
  replace kb := kb.below hB5 kb.lt
  have e0 : ∀ W' : World, Below xx5.heap.size xx5 W' → W'.cell? ⟨w.heap.size, 0, none⟩ = some (.int .i64 s1) ∧ W'.cell? ⟨w.heap.size, 1, none⟩ = some (.slice A1 n1 d1) ∧ W'.cell? ⟨w.heap.size, 2, none⟩ = some (.int .i64 s2) ∧ W'.cell? ⟨w.heap.size, 3, none⟩ = some (.slice A2 n2 d2) ∧ Below xx5.heap.size xx5 W' := fun W' hW =>
    ⟨(ka.below hW ka.lt).cell 0, (ka.below hW ka.lt).cell 1, (ka.below hW ka.lt).cell 2, (ka.below hW ka.lt).cell 3, hW⟩
  have E0 := Lib.hid e0; clear e0
  have hB00 : Below xx5.heap.size xx5 xx5.drew := (Below.refl _ _).drew
  have hTs := hT.size
  go_wp2_with fail
  go_region_held3 (fun W' => W'.cell? ⟨w.heap.size, 0, none⟩ = some (.int .i64 s1) ∧ W'.cell? ⟨w.heap.size, 1, none⟩ = some (.slice A1 n1 d1) ∧ W'.cell? ⟨w.heap.size, 2, none⟩ = some (.int .i64 s2) ∧ W'.cell? ⟨w.heap.size, 3, none⟩ = some (.slice A2 n2 d2) ∧ Below xx5.heap.size xx5 W')
    (first | exact E0.out _ (by assumption) | exact E0.out _ ⟨rfl, rfl, rfl, Nat.le_refl _, fun _ _ => rfl⟩)
    (first
      | (go_at_call 56; have _h := hB4; refine (sbig_own (hr1.below hb4) hr2).mono ?_; rintro e ox5 ⟨rfl, hb5⟩; have hB5 : Below xx5.heap.size xx5 ox5 := hB4.trans (hb5.mono hB4.size))
      | (go_at_call 58; have _h := hB3; refine ((HFL.out _ (hT.trans (hB3.mono hTs))).2).mono ?_; rintro e ox4 ⟨r2, rfl, hr2, hb4⟩; have hB4 : Below xx5.heap.size xx5 ox4 := hB3.trans (hb4.mono hB3.size))
      | (go_at_call 57; have _h := hB2; refine ((HFL.out _ (hT.trans (hB2.mono hTs))).1).mono ?_; rintro e ox3 ⟨r1, rfl, hr1, hb3⟩; have hB3 : Below xx5.heap.size xx5 ox3 := hB2.trans (hb3.mono hB2.size))
      | (go_at_call 55; have _h := hB1; refine ((HTE.out _ (hT.trans (hB1.mono hTs))).2).mono ?_; rintro e ox2 ⟨rfl, hb2⟩; have hB2 : Below xx5.heap.size xx5 ox2 := hB1.trans (hb2.mono hB1.size))
      | (go_at_call 54; refine ((HTE.out _ (hT.trans (hB00.mono hTs))).1).mono ?_; rintro e ox1 ⟨rfl, hb1⟩; have hB1 : Below xx5.heap.size xx5 ox1 := ⟨hb1.os, hb1.tape, hb1.output, hb1.size, hb1.block⟩))
  clear E0 hB00 hTs
  replace hT := hT.trans (hB5.mono hT.size)
  replace ka := ka.below hB5 ka.lt
  replace kb := kb.below hB5 kb.lt
  go_wp2_with fail
  go_ret
  exact ⟨rfl, hT⟩

end Go.Proofs.YtkjpfnbdlbnbkaaGreatDoor
