/- Boxes of fractions as they came in; Add, Sub, Mul, Div and Compare where one is not right. Printed by a program (fbad.py). Walks: Of of fractions, and the laws' own. Printed by a program. Walks: the laws' right, at a right fraction. Walks: the operations of fractions as those of rational numbers, where there is room. Printed by a program (grat.py). Walks: the reference's trim and digit. Walks: the reference's less, plus and minus. -/
import Derived.Test.YtlbjaimgoiimgaaXaj
import Derived.Test.YtlbjaimgoiimgaaXai
import Derived.Test.YtlbjaimgoiimgaaXaf
import Derived.Test.YtlbjaimgoiimgaaXaa
import Derived.Deep.AppendLies
import Derived.Deep.QuietTactic
import Derived.BigQuiet
import Derived.Lib.MinMax

namespace Go.Proofs.Ytlbjaimgoiimgaa
open Go.RowKit

/-- A box that holds a fraction as it came in. -/
structure Af (W : World) (g : Nat) (s1 : Int) (l1 : List Int) (A1 : Option Addr) (n1 c1 : Nat) (s2 : Int) (l2 : List Int) (A2 : Option Addr) (n2 c2 : Nat) : Prop where
  blk : Blk W g 40 #[.int .i64 s1, .slice A1 n1 c1, .int .i64 s2, .slice A2 n2 c2]
  a : Ar W s1 l1 A1 n1 c1
  b : Ar W s2 l2 A2 n2 c2
section
variable {W W' w : World} {g : Nat} {s1 s2 s3 s4 : Int} {l1 l2 l3 l4 : List Int} {A1 A2 A3 A4 : Option Addr} {n1 d1 n2 d2 n3 d3 n4 d4 : Nat}
theorem Af.below (h : Af W g s1 l1 A1 n1 d1 s2 l2 A2 n2 d2) (hb : Below W.heap.size W W') : Af W' g s1 l1 A1 n1 d1 s2 l2 A2 n2 d2 := ⟨h.blk.below hb h.blk.lt, h.a.later hb, h.b.later hb⟩
theorem Af.c0 (h : Af W g s1 l1 A1 n1 d1 s2 l2 A2 n2 d2) : W.cell? ⟨g, 0, none⟩ = some (.int .i64 s1) := h.blk.cell 0
theorem Af.c1 (h : Af W g s1 l1 A1 n1 d1 s2 l2 A2 n2 d2) : W.cell? ⟨g, 1, none⟩ = some (.slice A1 n1 d1) := h.blk.cell 1
theorem Af.c2 (h : Af W g s1 l1 A1 n1 d1 s2 l2 A2 n2 d2) : W.cell? ⟨g, 2, none⟩ = some (.int .i64 s2) := h.blk.cell 2
theorem Af.c3 (h : Af W g s1 l1 A1 n1 d1 s2 l2 A2 n2 d2) : W.cell? ⟨g, 3, none⟩ = some (.slice A2 n2 d2) := h.blk.cell 3
/-- If it is right, it reads as a rational number. -/
theorem Af.bf (h : Af W g s1 l1 A1 n1 d1 s2 l2 A2 n2 d2) (hr : RF s1 l1 s2 l2) :
    ∃ x : Rat, Bf 40 W g s1 A1 n1 d1 s2 A2 n2 d2 x.num x.den ∧ s1 = sgn x.num ∧ Rb x 60 60 ∧ ∀ k : Nat, (n1 ≤ k ∧ n2 ≤ k) → Rb x k k := by
  obtain ⟨x, h1, h2, h3, h4, h5, h6⟩ := hr.fv h.a h.b
  exact ⟨x, ⟨h.blk, h1⟩, h2, ⟨h3, h4⟩, fun k hk => ⟨h5 k hk.1, h6 k hk.2⟩⟩
theorem afboxes1 (h1 : Ar w s1 l1 A1 n1 d1) (h2 : Ar w s2 l2 A2 n2 d2) (h3 : Ar w s3 l3 A3 n3 d3) (h4 : Ar w s4 l4 A4 n4 d4) :
    ∃ W, W = (w.alloc (.cells #[.int .i64 s1, .slice A1 n1 d1, .int .i64 s2, .slice A2 n2 d2] 40)).alloc (.cells #[.int .i64 s3, .slice A3 n3 d3, .int .i64 s4, .slice A4 n4 d4] 40) ∧ Below w.heap.size w W ∧ Af W w.heap.size s1 l1 A1 n1 d1 s2 l2 A2 n2 d2 ∧ Af W (w.heap.size + 1) s3 l3 A3 n3 d3 s4 l4 A4 n4 d4 := by
  have hb1 : Below w.heap.size w (w.alloc (.cells #[.int .i64 s1, .slice A1 n1 d1, .int .i64 s2, .slice A2 n2 d2] 40)) := (Below.refl _ _).alloc (Nat.le_refl _) _
  have hb2 := hb1.alloc hb1.size (.cells #[.int .i64 s3, .slice A3 n3 d3, .int .i64 s4, .slice A4 n4 d4] 40)
  have k1 := Blk.new w 40 #[.int .i64 s1, .slice A1 n1 d1, .int .i64 s2, .slice A2 n2 d2]
  have k2 := Blk.new (w.alloc (.cells #[.int .i64 s1, .slice A1 n1 d1, .int .i64 s2, .slice A2 n2 d2] 40)) 40 #[.int .i64 s3, .slice A3 n3 d3, .int .i64 s4, .slice A4 n4 d4]
  simp only [World.size_alloc] at k2
  exact ⟨_, rfl, hb2, ⟨k1.alloc _, h1.later hb2, h2.later hb2⟩, ⟨k2, h3.later hb2, h4.later hb2⟩⟩
theorem afboxes2 (h1 : Ar w s1 l1 A1 n1 d1) (h2 : Ar w s2 l2 A2 n2 d2) (h3 : Ar w s3 l3 A3 n3 d3) (h4 : Ar w s4 l4 A4 n4 d4) :
    ∃ W, W = ((w.alloc (.cells #[.int .i64 s1, .slice A1 n1 d1, .int .i64 s2, .slice A2 n2 d2] 40)).alloc (.cells #[.int .i64 s3, .slice A3 n3 d3, .int .i64 s4, .slice A4 n4 d4] 40)).alloc (.cells #[.int .i64 0, .slice none 0 0, .int .i64 0, .slice none 0 0] 40) ∧ Below w.heap.size w W ∧ Af W w.heap.size s1 l1 A1 n1 d1 s2 l2 A2 n2 d2 ∧ Af W (w.heap.size + 1) s3 l3 A3 n3 d3 s4 l4 A4 n4 d4 ∧
      Bz W (w.heap.size + 1 + 1) (.int .i64 0) (.slice none 0 0) (.int .i64 0) (.slice none 0 0) := by
  obtain ⟨W, hW, hb, k1, k2⟩ := afboxes1 h1 h2 h3 h4
  rw [← hW]
  have hs : W.heap.size = w.heap.size + 1 + 1 := by rw [hW]; simp
  have h3 := Blk.new W 40 #[.int .i64 0, .slice none 0 0, .int .i64 0, .slice none 0 0]
  rw [hs] at h3
  have hb' : Below W.heap.size W (W.alloc (.cells #[.int .i64 0, .slice none 0 0, .int .i64 0, .slice none 0 0] 40)) := (Below.refl _ _).alloc (Nat.le_refl _) _
  exact ⟨_, rfl, hb.alloc hb.size _, k1.below hb', k2.below hb', ⟨h3⟩⟩
end

set_option maxRecDepth 100000 in
set_option maxHeartbeats 8000000 in
theorem combine_bad {s1 s2 s3 s4 : Int} {l1 l2 l3 l4 : List Int} {A1 A2 A3 A4 : Option Addr} {n1 d1 n2 d2 n3 d3 n4 d4 : Nat} (w : World) (op : Nat) (h1 : Ar w s1 l1 A1 n1 d1) (h2 : Ar w s2 l2 A2 n2 d2) (h3 : Ar w s3 l3 A3 n3 d3) (h4 : Ar w s4 l4 A4 n4 d4) (hb : ¬ (RF s1 l1 s2 l2 ∧ RF s3 l3 s4 l4)) :
    Calls Try.prog 37 #[.agg #[.int .i64 s1, .slice A1 n1 d1, .int .i64 s2, .slice A2 n2 d2], .agg #[.int .i64 s3, .slice A3 n3 d3, .int .i64 s4, .slice A4 n4 d4], .func (.func op) #[] #[]] w fun e w' => e = .returned (.tuple #[.agg #[.int .i64 0, .slice none 0 0, .int .i64 0, .slice none 0 0], .int .i64 1]) ∧ Below w.heap.size w w' := by
  have HB := Lib.hid hb; clear hb
  go_enter Try.func37, Try.ntmps37
  go_wp2_with fail
  obtain ⟨W0, hW, hbx, ka, kb, kR⟩ := afboxes2 h1 h2 h3 h4
  rw [← hW]
  clear hW h1 h2 h3 h4
  have hT := hbx
  have za0 := ka.c0
  have za1 := ka.c1
  have za2 := ka.c2
  have za3 := ka.c3
  go_wp2_with fail
  clear za0 za1 za2 za3
  by_cases hr : RF s1 l1 s2 l2
  · (with_reducible refine (fright_any _ ka.a ka.b true (by simp [hr])).mono ?_)
    rintro e u1 ⟨rfl, hb9⟩
    have hT := hT.trans (hb9.mono hT.size)
    have ka := ka.below hb9
    have kb := kb.below hb9
    have kR := kR.below hb9
    have zb0 := kb.c0
    have zb1 := kb.c1
    have zb2 := kb.c2
    have zb3 := kb.c3
    go_wp2_with fail
    clear zb0 zb1 zb2 zb3
    (with_reducible refine (fright_any _ kb.a kb.b false (by simp only [Bool.false_eq_true, false_iff]; exact fun h => absurd ⟨hr, h⟩ HB.out)).mono ?_)
    rintro e u2 ⟨rfl, hb9⟩
    have hT := hT.trans (hb9.mono hT.size)
    have ka := ka.below hb9
    have kb := kb.below hb9
    have kR := kR.below hb9
    clear ka kb
    have gR : w.heap.size ≤ w.heap.size + 1 + 1 := by omega
    have r0 := kR.blk.cell 0
    have r1 := kR.blk.cell 1
    have r2 := kR.blk.cell 2
    have r3 := kR.blk.cell 3
    have q0' := kR.blk.frozen 0
    have q1' := kR.blk.frozen 1
    have q2' := kR.blk.frozen 2
    have q3' := kR.blk.frozen 3
    simp at r0 r1 r2 r3
    have hbs := kR.blk.set4 (.int .i64 0) (.slice none 0 0) (.int .i64 0) (.slice none 0 0)
    have x0 := hbs.cell 0
    have x1 := hbs.cell 1
    have x2 := hbs.cell 2
    have x3 := hbs.cell 3
    simp at x0 x1 x2 x3
    go_wp2_with fail
    refine bodyPost_ret (v := .tuple #[.agg #[.int .i64 0, .slice none 0 0, .int .i64 0, .slice none 0 0], .int .i64 1]) (by simp [results, Try.results37, go_sem, x0, x1, x2, x3]) rfl ?_
    exact ⟨rfl, below_st4 hT gR _ _ _ _⟩
  · (with_reducible refine (fright_any _ ka.a ka.b false (by simp [hr])).mono ?_)
    rintro e u1 ⟨rfl, hb9⟩
    have hT := hT.trans (hb9.mono hT.size)
    have ka := ka.below hb9
    have kb := kb.below hb9
    have kR := kR.below hb9
    clear ka kb
    have gR : w.heap.size ≤ w.heap.size + 1 + 1 := by omega
    have r0 := kR.blk.cell 0
    have r1 := kR.blk.cell 1
    have r2 := kR.blk.cell 2
    have r3 := kR.blk.cell 3
    have q0' := kR.blk.frozen 0
    have q1' := kR.blk.frozen 1
    have q2' := kR.blk.frozen 2
    have q3' := kR.blk.frozen 3
    simp at r0 r1 r2 r3
    have hbs := kR.blk.set4 (.int .i64 0) (.slice none 0 0) (.int .i64 0) (.slice none 0 0)
    have x0 := hbs.cell 0
    have x1 := hbs.cell 1
    have x2 := hbs.cell 2
    have x3 := hbs.cell 3
    simp at x0 x1 x2 x3
    go_wp2_with fail
    refine bodyPost_ret (v := .tuple #[.agg #[.int .i64 0, .slice none 0 0, .int .i64 0, .slice none 0 0], .int .i64 1]) (by simp [results, Try.results37, go_sem, x0, x1, x2, x3]) rfl ?_
    exact ⟨rfl, below_st4 hT gR _ _ _ _⟩

set_option maxRecDepth 100000 in
set_option maxHeartbeats 8000000 in
theorem fadd_bad {s1 s2 s3 s4 : Int} {l1 l2 l3 l4 : List Int} {A1 A2 A3 A4 : Option Addr} {n1 d1 n2 d2 n3 d3 n4 d4 : Nat} (w : World) (h1 : Ar w s1 l1 A1 n1 d1) (h2 : Ar w s2 l2 A2 n2 d2) (h3 : Ar w s3 l3 A3 n3 d3) (h4 : Ar w s4 l4 A4 n4 d4) (hb : ¬ (RF s1 l1 s2 l2 ∧ RF s3 l3 s4 l4)) :
    Calls Try.prog 21 #[.agg #[.int .i64 s1, .slice A1 n1 d1, .int .i64 s2, .slice A2 n2 d2], .agg #[.int .i64 s3, .slice A3 n3 d3, .int .i64 s4, .slice A4 n4 d4]] w fun e w' => e = .returned (.tuple #[.agg #[.int .i64 0, .slice none 0 0, .int .i64 0, .slice none 0 0], .int .i64 1]) ∧ Below w.heap.size w w' := by
  have HI := Lib.hid (fun (w' : World) (hw : Below w.heap.size w w') => combine_bad w' 38 (h1.later hw) (h2.later hw) (h3.later hw) (h4.later hw) hb)
  go_enter Try.func21, Try.ntmps21
  go_wp2_with fail
  obtain ⟨W0, hW, hbx, ka, kb, kR⟩ := afboxes2 h1 h2 h3 h4
  rw [← hW]
  clear hW h1 h2 h3 h4 hb
  have hT := hbx
  have za0 := ka.c0
  have za1 := ka.c1
  have za2 := ka.c2
  have za3 := ka.c3
  have zb0 := kb.c0
  have zb1 := kb.c1
  have zb2 := kb.c2
  have zb3 := kb.c3
  go_wp2_with fail
  clear za0 za1 za2 za3
  clear zb0 zb1 zb2 zb3
  (with_reducible refine (HI.out _ hT).mono ?_)
  rintro e u3 ⟨rfl, hb9⟩
  have hT := hT.trans (hb9.mono hT.size)
  have kR := kR.below hb9
  clear ka kb HI
  have gR : w.heap.size ≤ w.heap.size + 1 + 1 := by omega
  have r0 := kR.blk.cell 0
  have r1 := kR.blk.cell 1
  have r2 := kR.blk.cell 2
  have r3 := kR.blk.cell 3
  have q0' := kR.blk.frozen 0
  have q1' := kR.blk.frozen 1
  have q2' := kR.blk.frozen 2
  have q3' := kR.blk.frozen 3
  simp at r0 r1 r2 r3
  have hbs := kR.blk.set4 (.int .i64 0) (.slice none 0 0) (.int .i64 0) (.slice none 0 0)
  have x0 := hbs.cell 0
  have x1 := hbs.cell 1
  have x2 := hbs.cell 2
  have x3 := hbs.cell 3
  simp at x0 x1 x2 x3
  go_wp2_with fail
  refine bodyPost_ret (v := .tuple #[.agg #[.int .i64 0, .slice none 0 0, .int .i64 0, .slice none 0 0], .int .i64 1]) (by simp [results, Try.results21, go_sem, x0, x1, x2, x3]) rfl ?_
  exact ⟨rfl, below_st4 hT gR _ _ _ _⟩

set_option maxRecDepth 100000 in
set_option maxHeartbeats 8000000 in
theorem fsub_bad {s1 s2 s3 s4 : Int} {l1 l2 l3 l4 : List Int} {A1 A2 A3 A4 : Option Addr} {n1 d1 n2 d2 n3 d3 n4 d4 : Nat} (w : World) (h1 : Ar w s1 l1 A1 n1 d1) (h2 : Ar w s2 l2 A2 n2 d2) (h3 : Ar w s3 l3 A3 n3 d3) (h4 : Ar w s4 l4 A4 n4 d4) (hb : ¬ (RF s1 l1 s2 l2 ∧ RF s3 l3 s4 l4)) :
    Calls Try.prog 30 #[.agg #[.int .i64 s1, .slice A1 n1 d1, .int .i64 s2, .slice A2 n2 d2], .agg #[.int .i64 s3, .slice A3 n3 d3, .int .i64 s4, .slice A4 n4 d4]] w fun e w' => e = .returned (.tuple #[.agg #[.int .i64 0, .slice none 0 0, .int .i64 0, .slice none 0 0], .int .i64 1]) ∧ Below w.heap.size w w' := by
  have HI := Lib.hid (fun (w' : World) (hw : Below w.heap.size w w') => combine_bad w' 44 (h1.later hw) (h2.later hw) (h3.later hw) (h4.later hw) hb)
  go_enter Try.func30, Try.ntmps30
  go_wp2_with fail
  obtain ⟨W0, hW, hbx, ka, kb, kR⟩ := afboxes2 h1 h2 h3 h4
  rw [← hW]
  clear hW h1 h2 h3 h4 hb
  have hT := hbx
  have za0 := ka.c0
  have za1 := ka.c1
  have za2 := ka.c2
  have za3 := ka.c3
  have zb0 := kb.c0
  have zb1 := kb.c1
  have zb2 := kb.c2
  have zb3 := kb.c3
  go_wp2_with fail
  clear za0 za1 za2 za3
  clear zb0 zb1 zb2 zb3
  (with_reducible refine (HI.out _ hT).mono ?_)
  rintro e u3 ⟨rfl, hb9⟩
  have hT := hT.trans (hb9.mono hT.size)
  have kR := kR.below hb9
  clear ka kb HI
  have gR : w.heap.size ≤ w.heap.size + 1 + 1 := by omega
  have r0 := kR.blk.cell 0
  have r1 := kR.blk.cell 1
  have r2 := kR.blk.cell 2
  have r3 := kR.blk.cell 3
  have q0' := kR.blk.frozen 0
  have q1' := kR.blk.frozen 1
  have q2' := kR.blk.frozen 2
  have q3' := kR.blk.frozen 3
  simp at r0 r1 r2 r3
  have hbs := kR.blk.set4 (.int .i64 0) (.slice none 0 0) (.int .i64 0) (.slice none 0 0)
  have x0 := hbs.cell 0
  have x1 := hbs.cell 1
  have x2 := hbs.cell 2
  have x3 := hbs.cell 3
  simp at x0 x1 x2 x3
  go_wp2_with fail
  refine bodyPost_ret (v := .tuple #[.agg #[.int .i64 0, .slice none 0 0, .int .i64 0, .slice none 0 0], .int .i64 1]) (by simp [results, Try.results30, go_sem, x0, x1, x2, x3]) rfl ?_
  exact ⟨rfl, below_st4 hT gR _ _ _ _⟩

set_option maxRecDepth 100000 in
set_option maxHeartbeats 8000000 in
theorem fmul_bad {s1 s2 s3 s4 : Int} {l1 l2 l3 l4 : List Int} {A1 A2 A3 A4 : Option Addr} {n1 d1 n2 d2 n3 d3 n4 d4 : Nat} (w : World) (h1 : Ar w s1 l1 A1 n1 d1) (h2 : Ar w s2 l2 A2 n2 d2) (h3 : Ar w s3 l3 A3 n3 d3) (h4 : Ar w s4 l4 A4 n4 d4) (hb : ¬ (RF s1 l1 s2 l2 ∧ RF s3 l3 s4 l4)) :
    Calls Try.prog 36 #[.agg #[.int .i64 s1, .slice A1 n1 d1, .int .i64 s2, .slice A2 n2 d2], .agg #[.int .i64 s3, .slice A3 n3 d3, .int .i64 s4, .slice A4 n4 d4]] w fun e w' => e = .returned (.tuple #[.agg #[.int .i64 0, .slice none 0 0, .int .i64 0, .slice none 0 0], .int .i64 1]) ∧ Below w.heap.size w w' := by
  have HB := Lib.hid hb; clear hb
  go_enter Try.func36, Try.ntmps36
  go_wp2_with fail
  obtain ⟨W0, hW, hbx, ka, kb, kR⟩ := afboxes2 h1 h2 h3 h4
  rw [← hW]
  clear hW h1 h2 h3 h4
  have hT := hbx
  have za0 := ka.c0
  have za1 := ka.c1
  have za2 := ka.c2
  have za3 := ka.c3
  go_wp2_with fail
  clear za0 za1 za2 za3
  by_cases hr : RF s1 l1 s2 l2
  · (with_reducible refine (fright_any _ ka.a ka.b true (by simp [hr])).mono ?_)
    rintro e u1 ⟨rfl, hb9⟩
    have hT := hT.trans (hb9.mono hT.size)
    have ka := ka.below hb9
    have kb := kb.below hb9
    have kR := kR.below hb9
    have zb0 := kb.c0
    have zb1 := kb.c1
    have zb2 := kb.c2
    have zb3 := kb.c3
    go_wp2_with fail
    clear zb0 zb1 zb2 zb3
    (with_reducible refine (fright_any _ kb.a kb.b false (by simp only [Bool.false_eq_true, false_iff]; exact fun h => absurd ⟨hr, h⟩ HB.out)).mono ?_)
    rintro e u2 ⟨rfl, hb9⟩
    have hT := hT.trans (hb9.mono hT.size)
    have ka := ka.below hb9
    have kb := kb.below hb9
    have kR := kR.below hb9
    clear ka kb
    have gR : w.heap.size ≤ w.heap.size + 1 + 1 := by omega
    have r0 := kR.blk.cell 0
    have r1 := kR.blk.cell 1
    have r2 := kR.blk.cell 2
    have r3 := kR.blk.cell 3
    have q0' := kR.blk.frozen 0
    have q1' := kR.blk.frozen 1
    have q2' := kR.blk.frozen 2
    have q3' := kR.blk.frozen 3
    simp at r0 r1 r2 r3
    have hbs := kR.blk.set4 (.int .i64 0) (.slice none 0 0) (.int .i64 0) (.slice none 0 0)
    have x0 := hbs.cell 0
    have x1 := hbs.cell 1
    have x2 := hbs.cell 2
    have x3 := hbs.cell 3
    simp at x0 x1 x2 x3
    go_wp2_with fail
    refine bodyPost_ret (v := .tuple #[.agg #[.int .i64 0, .slice none 0 0, .int .i64 0, .slice none 0 0], .int .i64 1]) (by simp [results, Try.results36, go_sem, x0, x1, x2, x3]) rfl ?_
    exact ⟨rfl, below_st4 hT gR _ _ _ _⟩
  · (with_reducible refine (fright_any _ ka.a ka.b false (by simp [hr])).mono ?_)
    rintro e u1 ⟨rfl, hb9⟩
    have hT := hT.trans (hb9.mono hT.size)
    have ka := ka.below hb9
    have kb := kb.below hb9
    have kR := kR.below hb9
    clear ka kb
    have gR : w.heap.size ≤ w.heap.size + 1 + 1 := by omega
    have r0 := kR.blk.cell 0
    have r1 := kR.blk.cell 1
    have r2 := kR.blk.cell 2
    have r3 := kR.blk.cell 3
    have q0' := kR.blk.frozen 0
    have q1' := kR.blk.frozen 1
    have q2' := kR.blk.frozen 2
    have q3' := kR.blk.frozen 3
    simp at r0 r1 r2 r3
    have hbs := kR.blk.set4 (.int .i64 0) (.slice none 0 0) (.int .i64 0) (.slice none 0 0)
    have x0 := hbs.cell 0
    have x1 := hbs.cell 1
    have x2 := hbs.cell 2
    have x3 := hbs.cell 3
    simp at x0 x1 x2 x3
    go_wp2_with fail
    refine bodyPost_ret (v := .tuple #[.agg #[.int .i64 0, .slice none 0 0, .int .i64 0, .slice none 0 0], .int .i64 1]) (by simp [results, Try.results36, go_sem, x0, x1, x2, x3]) rfl ?_
    exact ⟨rfl, below_st4 hT gR _ _ _ _⟩

set_option maxRecDepth 100000 in
set_option maxHeartbeats 8000000 in
theorem fdiv_bad {s1 s2 s3 s4 : Int} {l1 l2 l3 l4 : List Int} {A1 A2 A3 A4 : Option Addr} {n1 d1 n2 d2 n3 d3 n4 d4 : Nat} (w : World) (h1 : Ar w s1 l1 A1 n1 d1) (h2 : Ar w s2 l2 A2 n2 d2) (h3 : Ar w s3 l3 A3 n3 d3) (h4 : Ar w s4 l4 A4 n4 d4) (hb : ¬ (RF s1 l1 s2 l2 ∧ RF s3 l3 s4 l4)) :
    Calls Try.prog 77 #[.agg #[.int .i64 s1, .slice A1 n1 d1, .int .i64 s2, .slice A2 n2 d2], .agg #[.int .i64 s3, .slice A3 n3 d3, .int .i64 s4, .slice A4 n4 d4]] w fun e w' => e = .returned (.tuple #[.agg #[.int .i64 0, .slice none 0 0, .int .i64 0, .slice none 0 0], .int .i64 1]) ∧ Below w.heap.size w w' := by
  have HB := Lib.hid hb; clear hb
  go_enter Try.func77, Try.ntmps77
  go_wp2_with fail
  obtain ⟨W0, hW, hbx, ka, kb, kR⟩ := afboxes2 h1 h2 h3 h4
  rw [← hW]
  clear hW h1 h2 h3 h4
  have hT := hbx
  have za0 := ka.c0
  have za1 := ka.c1
  have za2 := ka.c2
  have za3 := ka.c3
  go_wp2_with fail
  clear za0 za1 za2 za3
  by_cases hr : RF s1 l1 s2 l2
  · (with_reducible refine (fright_any _ ka.a ka.b true (by simp [hr])).mono ?_)
    rintro e u1 ⟨rfl, hb9⟩
    have hT := hT.trans (hb9.mono hT.size)
    have ka := ka.below hb9
    have kb := kb.below hb9
    have kR := kR.below hb9
    have zb0 := kb.c0
    have zb1 := kb.c1
    have zb2 := kb.c2
    have zb3 := kb.c3
    go_wp2_with fail
    clear zb0 zb1 zb2 zb3
    (with_reducible refine (fright_any _ kb.a kb.b false (by simp only [Bool.false_eq_true, false_iff]; exact fun h => absurd ⟨hr, h⟩ HB.out)).mono ?_)
    rintro e u2 ⟨rfl, hb9⟩
    have hT := hT.trans (hb9.mono hT.size)
    have ka := ka.below hb9
    have kb := kb.below hb9
    have kR := kR.below hb9
    clear ka kb
    have gR : w.heap.size ≤ w.heap.size + 1 + 1 := by omega
    have r0 := kR.blk.cell 0
    have r1 := kR.blk.cell 1
    have r2 := kR.blk.cell 2
    have r3 := kR.blk.cell 3
    have q0' := kR.blk.frozen 0
    have q1' := kR.blk.frozen 1
    have q2' := kR.blk.frozen 2
    have q3' := kR.blk.frozen 3
    simp at r0 r1 r2 r3
    have hbs := kR.blk.set4 (.int .i64 0) (.slice none 0 0) (.int .i64 0) (.slice none 0 0)
    have x0 := hbs.cell 0
    have x1 := hbs.cell 1
    have x2 := hbs.cell 2
    have x3 := hbs.cell 3
    simp at x0 x1 x2 x3
    go_wp2_with fail
    refine bodyPost_ret (v := .tuple #[.agg #[.int .i64 0, .slice none 0 0, .int .i64 0, .slice none 0 0], .int .i64 1]) (by simp [results, Try.results77, go_sem, x0, x1, x2, x3]) rfl ?_
    exact ⟨rfl, below_st4 hT gR _ _ _ _⟩
  · (with_reducible refine (fright_any _ ka.a ka.b false (by simp [hr])).mono ?_)
    rintro e u1 ⟨rfl, hb9⟩
    have hT := hT.trans (hb9.mono hT.size)
    have ka := ka.below hb9
    have kb := kb.below hb9
    have kR := kR.below hb9
    clear ka kb
    have gR : w.heap.size ≤ w.heap.size + 1 + 1 := by omega
    have r0 := kR.blk.cell 0
    have r1 := kR.blk.cell 1
    have r2 := kR.blk.cell 2
    have r3 := kR.blk.cell 3
    have q0' := kR.blk.frozen 0
    have q1' := kR.blk.frozen 1
    have q2' := kR.blk.frozen 2
    have q3' := kR.blk.frozen 3
    simp at r0 r1 r2 r3
    have hbs := kR.blk.set4 (.int .i64 0) (.slice none 0 0) (.int .i64 0) (.slice none 0 0)
    have x0 := hbs.cell 0
    have x1 := hbs.cell 1
    have x2 := hbs.cell 2
    have x3 := hbs.cell 3
    simp at x0 x1 x2 x3
    go_wp2_with fail
    refine bodyPost_ret (v := .tuple #[.agg #[.int .i64 0, .slice none 0 0, .int .i64 0, .slice none 0 0], .int .i64 1]) (by simp [results, Try.results77, go_sem, x0, x1, x2, x3]) rfl ?_
    exact ⟨rfl, below_st4 hT gR _ _ _ _⟩

set_option maxRecDepth 100000 in
set_option maxHeartbeats 8000000 in
theorem fcompare_bad {s1 s2 s3 s4 : Int} {l1 l2 l3 l4 : List Int} {A1 A2 A3 A4 : Option Addr} {n1 d1 n2 d2 n3 d3 n4 d4 : Nat} (w : World) (h1 : Ar w s1 l1 A1 n1 d1) (h2 : Ar w s2 l2 A2 n2 d2) (h3 : Ar w s3 l3 A3 n3 d3) (h4 : Ar w s4 l4 A4 n4 d4) (hb : ¬ (RF s1 l1 s2 l2 ∧ RF s3 l3 s4 l4)) :
    Calls Try.prog 46 #[.agg #[.int .i64 s1, .slice A1 n1 d1, .int .i64 s2, .slice A2 n2 d2], .agg #[.int .i64 s3, .slice A3 n3 d3, .int .i64 s4, .slice A4 n4 d4]] w fun e w' => e = .returned (.int .i64 0) ∧ Below w.heap.size w w' := by
  have HB := Lib.hid hb; clear hb
  go_enter Try.func46, Try.ntmps46
  go_wp2_with fail
  obtain ⟨W0, hW, hbx, ka, kb⟩ := afboxes1 h1 h2 h3 h4
  rw [← hW]
  clear hW h1 h2 h3 h4
  have hT := hbx
  have za0 := ka.c0
  have za1 := ka.c1
  have za2 := ka.c2
  have za3 := ka.c3
  go_wp2_with fail
  clear za0 za1 za2 za3
  by_cases hr : RF s1 l1 s2 l2
  · (with_reducible refine (fright_any _ ka.a ka.b true (by simp [hr])).mono ?_)
    rintro e u1 ⟨rfl, hb9⟩
    have hT := hT.trans (hb9.mono hT.size)
    have ka := ka.below hb9
    have kb := kb.below hb9
    have zb0 := kb.c0
    have zb1 := kb.c1
    have zb2 := kb.c2
    have zb3 := kb.c3
    go_wp2_with fail
    clear zb0 zb1 zb2 zb3
    (with_reducible refine (fright_any _ kb.a kb.b false (by simp only [Bool.false_eq_true, false_iff]; exact fun h => absurd ⟨hr, h⟩ HB.out)).mono ?_)
    rintro e u2 ⟨rfl, hb9⟩
    have hT := hT.trans (hb9.mono hT.size)
    have ka := ka.below hb9
    have kb := kb.below hb9
    clear ka kb
    go_wp2_with fail
    go_ret
    exact ⟨rfl, hT⟩
  · (with_reducible refine (fright_any _ ka.a ka.b false (by simp [hr])).mono ?_)
    rintro e u1 ⟨rfl, hb9⟩
    have hT := hT.trans (hb9.mono hT.size)
    have ka := ka.below hb9
    have kb := kb.below hb9
    clear ka kb
    go_wp2_with fail
    go_ret
    exact ⟨rfl, hT⟩

end Go.Proofs.Ytlbjaimgoiimgaa

namespace Go.Proofs.Ytlbjaimgoiimgaa
open Go.RowKit

set_option maxRecDepth 100000 in
set_option maxHeartbeats 8000000 in
theorem fof_any (p q : Int) (w : World) (hp : isI p) (hq : isI q) : Calls Try.prog 45 #[.int .i64 p, .int .i64 q] w (NewP p q w) := by
  have H1 := Lib.hid hp; clear hp
  have H2 := Lib.hid hq; clear hq
  unfold NewP
  obtain ⟨E, hE⟩ : ∃ E, newE q = E := ⟨_, rfl⟩
  obtain ⟨P, hP⟩ : ∃ E, newN p q = E := ⟨_, rfl⟩
  obtain ⟨Q, hQ⟩ : ∃ E, newD p q = E := ⟨_, rfl⟩
  rw [hE, hP, hQ]
  have HE := Lib.hid hE; clear hE
  have HP := Lib.hid hP; clear hP
  have HQ := Lib.hid hQ; clear hQ
  go_enter Try.func45, Try.ntmps45
  go_wp2_with fail
  obtain ⟨W0, hW⟩ : ∃ W, W = w.alloc (.cells #[.int .i64 0, .slice none 0 0, .int .i64 0, .slice none 0 0] 40) := ⟨_, rfl⟩
  have hT : Below w.heap.size w W0 := by rw [hW]; exact (Below.refl _ _).alloc (Nat.le_refl _) _
  have kR : Bz W0 w.heap.size (.int .i64 0) (.slice none 0 0) (.int .i64 0) (.slice none 0 0) := ⟨by rw [hW]; exact Blk.new _ _ _⟩
  rw [← hW]
  clear hW
  (with_reducible refine (of_any _ _ H1.out.lo H1.out.hi).mono ?_)
  rintro e u1 ⟨r1, rfl, hr1, hb1⟩
  have hT := hT.trans (hb1.mono hT.size)
  have kR := kR.below hb1
  obtain ⟨s1, A1, n1, c1, rfl⟩ := hr1.form
  go_wp2_with fail
  (with_reducible refine (of_any _ _ H2.out.lo H2.out.hi).mono ?_)
  rintro e u2 ⟨r2, rfl, hr2, hb2⟩
  have hT := hT.trans (hb2.mono hT.size)
  have kR := kR.below hb2
  have hv1 := hr1.bv.later hb2
  obtain ⟨s2, A2, n2, c2, rfl⟩ := hr2.form
  go_wp2_with fail
  have hlt := kR.blk.lt
  (with_reducible refine (new_any _ _ _ _ _ _ _ _ _ _ _ hv1 hr2.bv H1.out.lt H2.out.lt).mono ?_)
  rintro e u3 ⟨rr, rfl, hrr, hb9⟩
  have hT := hT.trans (hb9.mono hT.size)
  have kR := kR.below hb9
  clear hr1 hr2 hv1
  rw [HP.out, HQ.out] at hrr
  rw [HE.out]
  obtain ⟨t1, C1, m1, e1, t2, C2, m2, e2, rfl, g1, g2⟩ := hrr
  have gR : w.heap.size ≤ w.heap.size := Nat.le_refl _
  have r0 := kR.blk.cell 0
  have r1 := kR.blk.cell 1
  have r2 := kR.blk.cell 2
  have r3 := kR.blk.cell 3
  have q0' := kR.blk.frozen 0
  have q1' := kR.blk.frozen 1
  have q2' := kR.blk.frozen 2
  have q3' := kR.blk.frozen 3
  simp at r0 r1 r2 r3
  have hbs := kR.blk.set4 (.int .i64 t1) (.slice C1 m1 e1) (.int .i64 t2) (.slice C2 m2 e2)
  have x0 := hbs.cell 0
  have x1 := hbs.cell 1
  have x2 := hbs.cell 2
  have x3 := hbs.cell 3
  simp at x0 x1 x2 x3
  go_wp2_with fail
  refine bodyPost_ret (v := .tuple #[.agg #[.int .i64 t1, .slice C1 m1 e1, .int .i64 t2, .slice C2 m2 e2], .int .i64 E]) (by simp [results, Try.results45, go_sem, x0, x1, x2, x3]) rfl ?_
  exact ⟨_, rfl, FO.mk2 ((g1.far4 hlt _ _ _ _).mono (by omega)) ((g2.far4 hlt _ _ _ _).mono (by omega)), below_st4 hT gR _ _ _ _⟩

end Go.Proofs.Ytlbjaimgoiimgaa

namespace Go.Proofs.Ytlbjaimgoiimgaa
open Go.RowKit

end Go.Proofs.Ytlbjaimgoiimgaa

namespace Go.Proofs.Ytlbjaimgoiimgaa
open Go.RowKit

/-- A fraction is returned with OK, that the call owns. -/
def RetF (x : Rat) (w : World) (e : Ending) (w' : World) : Prop := ∃ r, e = .returned (.tuple #[r, .int .i64 0]) ∧ FO w' w.heap.size r x.num x.den ∧ Below w.heap.size w w'
theorem radd {s1 s2 s3 s4 : Int} {A1 A2 A3 A4 : Option Addr} {n1 d1 n2 d2 n3 d3 n4 d4 : Nat} {x y : Rat} {k m k' m' : Nat} (w : World) (ha : FV w w.heap.size s1 A1 n1 d1 s2 A2 n2 d2 x.num x.den) (hb : FV w w.heap.size s3 A3 n3 d3 s4 A4 n4 d4 y.num y.den) (hx : Rb x k m) (hy : Rb y k' m') (h : k + m' < 60 ∧ k' + m < 60 ∧ m + m' ≤ 60 ∧ k ≤ 60 ∧ k' ≤ 60 ∧ m ≤ 60 ∧ m' ≤ 60) :
    Calls Try.prog 21 #[.agg #[.int .i64 s1, .slice A1 n1 d1, .int .i64 s2, .slice A2 n2 d2], .agg #[.int .i64 s3, .slice A3 n3 d3, .int .i64 s4, .slice A4 n4 d4]] w (RetF (x + y) w) := by
  obtain ⟨e1, e2, e3, e4, e5, e6, e7⟩ := h
  have c1 := ab_mul_lt hx.n hy.d rfl
  have c2 := ab_mul_lt hy.n hx.d rfl
  have c3 := ab_add_lt c1 c2 e1 e2
  have c4 := ab_mul_lt hx.d hy.d rfl
  refine (fadd_fit _ _ _ _ _ _ _ _ _ _ _ _ _ _ _ _ _ _ _ _ w ha hb (up hx.n e4) (up hx.d e6) (up hy.n e5) (up hy.d e7) (FR.of x) (FR.of y) (up c1 (by omega)) (up c2 (by omega)) c3 (up c4 e3)).mono ?_
  rintro e w' ⟨r, rfl, hr, hb⟩
  have hd := den2_ne x y
  unfold newE newN newD at *
  rw [if_neg hd] at hr ⊢
  rw [if_neg hd, rat_add] at hr
  exact ⟨r, rfl, hr, hb⟩
theorem rsub {s1 s2 s3 s4 : Int} {A1 A2 A3 A4 : Option Addr} {n1 d1 n2 d2 n3 d3 n4 d4 : Nat} {x y : Rat} {k m k' m' : Nat} (w : World) (ha : FV w w.heap.size s1 A1 n1 d1 s2 A2 n2 d2 x.num x.den) (hb : FV w w.heap.size s3 A3 n3 d3 s4 A4 n4 d4 y.num y.den) (hx : Rb x k m) (hy : Rb y k' m') (h : k + m' < 60 ∧ k' + m < 60 ∧ m + m' ≤ 60 ∧ k ≤ 60 ∧ k' ≤ 60 ∧ m ≤ 60 ∧ m' ≤ 60) :
    Calls Try.prog 30 #[.agg #[.int .i64 s1, .slice A1 n1 d1, .int .i64 s2, .slice A2 n2 d2], .agg #[.int .i64 s3, .slice A3 n3 d3, .int .i64 s4, .slice A4 n4 d4]] w (RetF (x - y) w) := by
  obtain ⟨e1, e2, e3, e4, e5, e6, e7⟩ := h
  have c1 := ab_mul_lt hx.n hy.d rfl
  have c2 := ab_mul_lt hy.n hx.d rfl
  have c3 := ab_sub_lt c1 c2 e1 e2
  have c4 := ab_mul_lt hx.d hy.d rfl
  refine (fsub_fit _ _ _ _ _ _ _ _ _ _ _ _ _ _ _ _ _ _ _ _ w ha hb (up hx.n e4) (up hx.d e6) (up hy.n e5) (up hy.d e7) (FR.of x) (FR.of y) (up c1 (by omega)) (up c2 (by omega)) c3 (up c4 e3)).mono ?_
  rintro e w' ⟨r, rfl, hr, hb⟩
  have hd := den2_ne x y
  unfold newE newN newD at *
  rw [if_neg hd] at hr ⊢
  rw [if_neg hd, rat_sub] at hr
  exact ⟨r, rfl, hr, hb⟩
theorem rmul {s1 s2 s3 s4 : Int} {A1 A2 A3 A4 : Option Addr} {n1 d1 n2 d2 n3 d3 n4 d4 : Nat} {x y : Rat} {k m k' m' : Nat} (w : World) (ha : FV w w.heap.size s1 A1 n1 d1 s2 A2 n2 d2 x.num x.den) (hb : FV w w.heap.size s3 A3 n3 d3 s4 A4 n4 d4 y.num y.den) (hx : Rb x k m) (hy : Rb y k' m') (h : k + k' ≤ 60 ∧ m + m' ≤ 60 ∧ k ≤ 60 ∧ k' ≤ 60 ∧ m ≤ 60 ∧ m' ≤ 60) :
    Calls Try.prog 36 #[.agg #[.int .i64 s1, .slice A1 n1 d1, .int .i64 s2, .slice A2 n2 d2], .agg #[.int .i64 s3, .slice A3 n3 d3, .int .i64 s4, .slice A4 n4 d4]] w (RetF (x * y) w) := by
  obtain ⟨e1, e2, e4, e5, e6, e7⟩ := h
  have c1 := up (ab_mul_lt hx.n hy.n rfl) e1
  have c4 := up (ab_mul_lt hx.d hy.d rfl) e2
  refine (fmul_any _ _ _ _ _ _ _ _ _ _ _ _ _ _ _ _ _ _ _ _ w ha hb (up hx.n e4) (up hx.d e6) (up hy.n e5) (up hy.d e7) (FR.of x) (FR.of y)).mono ?_
  rintro e w' ⟨r, rfl, hr, hb⟩
  have hd := den2_ne x y
  unfold QE QN QD at *
  rw [if_pos ⟨c1, c4⟩] at hr ⊢
  rw [if_pos ⟨c1, c4⟩] at hr
  unfold newE newN newD at *
  rw [if_neg hd] at hr ⊢
  rw [if_neg hd, rat_mul] at hr
  exact ⟨r, rfl, hr, hb⟩
theorem rdiv {s1 s2 s3 s4 : Int} {A1 A2 A3 A4 : Option Addr} {n1 d1 n2 d2 n3 d3 n4 d4 : Nat} {x y : Rat} {k m k' m' : Nat} (w : World) (ha : FV w w.heap.size s1 A1 n1 d1 s2 A2 n2 d2 x.num x.den) (hb : FV w w.heap.size s3 A3 n3 d3 s4 A4 n4 d4 y.num y.den) (hx : Rb x k m) (hy : Rb y k' m') (h0 : y ≠ 0) (h : k + m' ≤ 60 ∧ m + k' ≤ 60 ∧ k ≤ 60 ∧ k' ≤ 60 ∧ m ≤ 60 ∧ m' ≤ 60) :
    Calls Try.prog 77 #[.agg #[.int .i64 s1, .slice A1 n1 d1, .int .i64 s2, .slice A2 n2 d2], .agg #[.int .i64 s3, .slice A3 n3 d3, .int .i64 s4, .slice A4 n4 d4]] w (RetF (x / y) w) := by
  obtain ⟨e1, e2, e4, e5, e6, e7⟩ := h
  have c1 := up (ab_mul_lt hx.n hy.d rfl) e1
  have c4 := up (ab_mul_lt hx.d hy.n rfl) e2
  refine (fdiv_any _ _ _ _ _ _ _ _ _ _ _ _ _ _ _ _ _ _ _ _ w ha hb (up hx.n e4) (up hx.d e6) (up hy.n e5) (up hy.d e7) (FR.of x) (FR.of y)).mono ?_
  rintro e w' ⟨r, rfl, hr, hb⟩
  have hd : (x.den : Int) * y.num ≠ 0 := Int.mul_ne_zero (den_ne x) (num_ne h0)
  unfold QE QN QD at *
  rw [if_pos ⟨c1, c4⟩] at hr ⊢
  rw [if_pos ⟨c1, c4⟩] at hr
  unfold newE newN newD at *
  rw [if_neg hd] at hr ⊢
  rw [if_neg hd, rat_div] at hr
  exact ⟨r, rfl, hr, hb⟩
/-- By 0 nothing is divided. -/
theorem rdiv0 {s1 s2 s3 s4 : Int} {A1 A2 A3 A4 : Option Addr} {n1 d1 n2 d2 n3 d3 n4 d4 : Nat} {x y : Rat} {k m k' m' : Nat} (w : World) (ha : FV w w.heap.size s1 A1 n1 d1 s2 A2 n2 d2 x.num x.den) (hb : FV w w.heap.size s3 A3 n3 d3 s4 A4 n4 d4 y.num y.den) (hx : Rb x k m) (hy : Rb y k' m') (h0 : y = 0) (h : m + k' ≤ 60 ∧ k + m' ≤ 60 ∧ k ≤ 60 ∧ k' ≤ 60 ∧ m ≤ 60 ∧ m' ≤ 60) :
    Calls Try.prog 77 #[.agg #[.int .i64 s1, .slice A1 n1 d1, .int .i64 s2, .slice A2 n2 d2], .agg #[.int .i64 s3, .slice A3 n3 d3, .int .i64 s4, .slice A4 n4 d4]] w fun e w' => ∃ r, e = .returned (.tuple #[r, .int .i64 15]) ∧ FO w' w.heap.size r 0 0 ∧ Below w.heap.size w w' := by
  obtain ⟨e1, e2, e4, e5, e6, e7⟩ := h
  have c1 := up (ab_mul_lt hx.n hy.d rfl) e2
  have c4 := up (ab_mul_lt hx.d hy.n rfl) e1
  refine (fdiv_any _ _ _ _ _ _ _ _ _ _ _ _ _ _ _ _ _ _ _ _ w ha hb (up hx.n e4) (up hx.d e6) (up hy.n e5) (up hy.d e7) (FR.of x) (FR.of y)).mono ?_
  rintro e w' ⟨r, rfl, hr, hb⟩
  have hd : (x.den : Int) * y.num = 0 := by rw [h0]; simp
  unfold QE QN QD at *
  rw [if_pos ⟨c1, c4⟩] at hr ⊢
  rw [if_pos ⟨c1, c4⟩] at hr
  unfold newE newN newD at *
  rw [if_pos hd] at hr ⊢
  rw [if_pos hd] at hr
  exact ⟨r, rfl, hr, hb⟩
/-- New of two integers of which the second one is not 0. -/
theorem rnew {s1 s2 : Int} {A1 A2 : Option Addr} {n1 d1 n2 d2 : Nat} {p q : Int} (w : World) (h1 : BV w w.heap.size (.agg #[.int .i64 s1, .slice A1 n1 d1]) p) (h2 : BV w w.heap.size (.agg #[.int .i64 s2, .slice A2 n2 d2]) q) (hp : ab p < pw 60) (hq : ab q < pw 60) (h0 : q ≠ 0) :
    Calls Try.prog 54 #[.agg #[.int .i64 s1, .slice A1 n1 d1], .agg #[.int .i64 s2, .slice A2 n2 d2]] w (RetF (Rat.divInt p q) w) := by
  refine (new_any _ _ _ _ _ _ _ _ p q w h1 h2 hp hq).mono ?_
  rintro e w' ⟨r, rfl, hr, hb⟩
  unfold newE newN newD at *
  rw [if_neg h0] at hr ⊢
  rw [if_neg h0] at hr
  exact ⟨r, rfl, hr, hb⟩
theorem rof (p q : Int) (w : World) (hp : isI p) (hq : isI q) (h0 : q ≠ 0) : Calls Try.prog 45 #[.int .i64 p, .int .i64 q] w (RetF (Rat.divInt p q) w) := by
  refine (fof_any p q w hp hq).mono ?_
  rintro e w' ⟨r, rfl, hr, hb⟩
  unfold newE newN newD at *
  rw [if_neg h0] at hr ⊢
  rw [if_neg h0] at hr
  exact ⟨r, rfl, hr, hb⟩
theorem rright {s1 s2 : Int} {A1 A2 : Option Addr} {n1 d1 n2 d2 : Nat} {x : Rat} (w : World) (h : FV w w.heap.size s1 A1 n1 d1 s2 A2 n2 d2 x.num x.den) (hx : Rb x 60 60) :
    Calls Try.prog 18 #[.agg #[.int .i64 s1, .slice A1 n1 d1, .int .i64 s2, .slice A2 n2 d2]] w fun e w' => e = .returned (.bool true) ∧ Below w.heap.size w w' :=
  fright_pos w h hx.n hx.d (FR.of x).1 true (decide_eq_true (FR.of x).2)
theorem rsame {s1 s2 s3 s4 : Int} {A1 A2 A3 A4 : Option Addr} {n1 d1 n2 d2 n3 d3 n4 d4 : Nat} {x y : Rat} (w : World) (ha : FV w w.heap.size s1 A1 n1 d1 s2 A2 n2 d2 x.num x.den) (hb : FV w w.heap.size s3 A3 n3 d3 s4 A4 n4 d4 y.num y.den) (b : Bool) (hbb : decide (x = y) = b) :
    Calls Try.prog 22 #[.agg #[.int .i64 s1, .slice A1 n1 d1, .int .i64 s2, .slice A2 n2 d2], .agg #[.int .i64 s3, .slice A3 n3 d3, .int .i64 s4, .slice A4 n4 d4]] w fun e w' => e = .returned (.bool b) ∧ Below w.heap.size w w' :=
  fsame_any _ _ _ _ _ _ _ _ _ _ _ _ _ _ _ _ _ _ _ _ w ha hb b ((same_rat x y).trans hbb)
/-- A box with what an owned fraction is. -/
theorem fbox {u : World} {B : Nat} {s1 s2 : Int} {A1 A2 : Option Addr} {n1 d1 n2 d2 : Nat} {p q : Int} (h : FO u B (.agg #[.int .i64 s1, .slice A1 n1 d1, .int .i64 s2, .slice A2 n2 d2]) p q) :
    ∃ W, W = u.alloc (.cells #[.int .i64 s1, .slice A1 n1 d1, .int .i64 s2, .slice A2 n2 d2] 40) ∧ Below u.heap.size u W ∧ Bf 40 W u.heap.size s1 A1 n1 d1 s2 A2 n2 d2 p q := fbox1 h.fv

end Go.Proofs.Ytlbjaimgoiimgaa

namespace Go.Proofs.Ytlbjaimgoiimgaa
open Go.RowKit

/-- A slice that reads as l. -/
def Sv (w : World) (v : Value) (l : List Int) : Prop := ∃ A c, v = .slice A l.length c ∧ l.length ≤ c ∧ c ≤ 9223372036854775807 ∧ IntsAt w.heap.size w A l
theorem Sv.later {w w' : World} {v : Value} {l : List Int} (h : Sv w v l) (hb : Below w.heap.size w w') : Sv w' v l := by
  obtain ⟨A, c, e, h1, h2, h3⟩ := h
  exact ⟨A, c, e, h1, h2, (h3.below hb).more hb.size⟩
theorem OwnI.sv {w : World} {B : Nat} {v : Value} {l : List Int} (h : OwnI w B v l) : Sv w v l := h.at_
theorem Sv.drewN {w : World} {v : Value} {l : List Int} (h : Sv w v l) (n : Nat) : Sv (w.drewN n) v l := h

set_option maxRecDepth 100000 in
/-- append(own, x...), where x reads as ms. -/
theorem appSl {w : World} {ops : Array Oper} {rest : List Oper} {o : Oper} {a : Act} {Q : Exit → Act → World → Prop} (hgd : o.guard = none) (s x : Operand)
    (ho : o.op = .call { callee := .builtin .append, args := #[s, x], argTypes := #[36, 36] })
    (B : Nat) (v : Value) (l : List Int) (hs : a.eval s = v) (hown : OwnI w B v l) (A : Option Addr) (m c : Nat) (ms : List Int)
    (hx : a.eval x = .slice A m c) (hm : ms.length = m) (hI : IntsAt w.heap.size w A ms) (hb : l.length + m ≤ 10000000) (hbase : B ≤ w.heap.size)
    (h : ∀ v' w', OwnI w' B v' (l ++ ms) → Below B w w' → wpList Try.prog ops Q rest (a.put o.dst v') w') : wpList Try.prog ops Q (o :: rest) a w := by
  obtain ⟨i0, hi, hz0, hz1, hz2⟩ := info_parts Try.info3
  rcases A with _ | ad
  · have hm0 : ms = [] := by
      rcases Nat.eq_zero_or_pos ms.length with h0 | h0
      · exact List.eq_nil_of_length_eq_zero h0
      · obtain ⟨b, off, e, _⟩ := hI 0 h0
        cases e
    subst hm0
    subst hm
    have hrun : ∀ ty, (Builtin.append_ #[36, 36] ty #[v, .slice none ([] : List Int).length c]).run Try.prog w = .ok v w := by
      intro ty
      rcases hown.2 with ⟨rfl, hn⟩ | ⟨g, cap, cur, rfl, _, _, hnc, _⟩
      · simp [Builtin.append_, run_underlying Try.underlying36, sizeOf, typeInfo, hi, Builtin.lenOf, Builtin.firstCells]
      · simp [Builtin.append_, run_underlying Try.underlying36, sizeOf, typeInfo, hi, Builtin.lenOf, Builtin.firstCells, hnc, storeCells]
    refine wpList_plain hgd fun K hK => ?_
    unfold Oper.wp execOp
    simp only [ho, resolve, invoke, builtin, Sem.run_bind, Sem.run_pure, Result.andThen_ok, List.map_toArray, List.map_cons, List.map_nil, hs, hx, hrun]
    refine hK _ _ (h v w ?_ (Below.refl _ _))
    rw [List.append_nil]; exact hown
  · refine wpList_append_own _ hgd s x 36 ho B 3 i0 (.int .i64 0) 1 8 Try.underlying36 hi hz0 hz1 hz2 rfl (by decide) _ _ _ hs hown ad m c (ms.map (Value.int .i64)) hx (by simp; omega) ?_ ?_ ?_ ?_ hbase ?_
    · intro j u hj
      rw [List.getElem?_map] at hj
      rcases Nat.lt_or_ge j ms.length with hlt | hge
      · obtain ⟨b, off, e, _, hc⟩ := hI j hlt
        injection e with e
        subst e
        rw [List.getElem?_eq_getElem hlt] at hj
        rw [List.getD_eq_getElem?_getD, List.getElem?_eq_getElem hlt] at hc
        simp only [Option.map_some, Option.some.injEq] at hj
        subst hj
        unfold Addr.add
        split
        · rename_i h0; subst h0; simpa using hc
        · exact hc
      · rw [List.getElem?_eq_none hge] at hj; cases hj
    · intro u hu
      obtain ⟨z, _, rfl⟩ := List.mem_map.1 hu
      rfl
    · unfold maxLen; omega
    · omega
    · intro v' w1 hown' hgrow _
      refine h v' w1 ?_ ?_
      · unfold OwnI
        rw [List.length_append, List.map_append, hm]
        exact hown'
      · exact (Below.refl B w).grown hgrow hbase (fun k hk => (World.ownsRow.lt hown k hk).1)

theorem ownI_lit0 (w : World) : OwnI (w.alloc (.cells #[] 3)) w.heap.size (.slice (some ⟨w.heap.size, 0, none⟩) 0 0) [] :=
  World.ownsRow_lit (e := 3) (size := 1) (base := w.heap.size) w #[] 0 (Nat.le_refl _) (by unfold maxLen; omega) (by simp)
theorem ints_take {B B' : Nat} {w : World} {A : Option Addr} {l : List Int} (h : IntsAt B w A l) (m : Nat) (hB : B ≤ B') : IntsAt B' w A (l.take m) := by
  intro k hk
  rw [List.length_take] at hk
  obtain ⟨b, off, e, h1, h2⟩ := h k (by omega)
  refine ⟨b, off, e, by omega, ?_⟩
  rw [h2, List.getD_eq_getElem?_getD, List.getD_eq_getElem?_getD, List.getElem?_take_of_lt (by omega)]
theorem nv_take_trim {l : List Int} {m : Nat} (h : m < l.length) (hz : l.getD m 0 = 0) : nv (l.take (m + 1)) = nv (l.take m) := by
  rw [nv_take_succ h, hz]; omega

set_option maxHeartbeats 1000000 in
theorem rtrim_any (l : List Int) (v : Value) (w : World) (h : Sv w v l) (hd : Dig l) (hl : l.length ≤ 1000000) :
    Calls Try.prog 81 #[v] w fun e w' => ∃ v', e = .returned v' ∧ OwnI w' w.heap.size v' (D (nv l)) ∧ Below w.heap.size w w' := by
  obtain ⟨A, c, rfl, hnc, hcm, hI⟩ := h
  obtain ⟨n, hn⟩ : ∃ n, l.length = n := ⟨_, rfl⟩
  have hnn : l.length ≤ n ∧ n ≤ l.length := by omega
  rw [hn] at hl hnc ⊢
  clear hn
  have hd0 := Lib.hid hd; clear hd
  go_enter Try.func81, Try.ntmps81
  go_wp2_with fail
  go_loop [3] (fun k => ∃ m : Nat, m ≤ n ∧ k = .int .i64 m ∧ Hid (nv (l.take m) = nv l)) (fun k => (intOf k).toNat)
  case atStart => exact ⟨n, Nat.le_refl _, rfl, Lib.hid (nv_take_all l (by omega))⟩
  case round =>
    obtain ⟨m, hm, rfl, hv⟩ := hrel
    by_cases h0 : 0 < m
    · obtain ⟨b, off, hA, _, hc⟩ := hI (m - 1) (by omega)
      subst hA
      obtain ⟨d, hd⟩ : ∃ d, l.getD (m - 1) 0 = d := ⟨_, rfl⟩
      rw [hd] at hc
      have HD := Lib.hid hd; clear hd
      by_cases hz : d = 0
      · subst hz
        go_wp2_with fail
        go_round
        case rel => exact ⟨m - 1, by omega, by congr 1; omega, Lib.hid (by
          have h1 := hv.out
          have h2 := nv_take_trim (l := l) (m := m - 1) (by omega) HD.out
          rw [show m - 1 + 1 = m by omega] at h2
          rw [← h2]; exact h1)⟩
        case measure => simp [intOf]; omega
      · have hz' : (d == 0) = false := by simpa using hz
        have hnil : OwnI (w.alloc (.cells #[] 3)) w.heap.size (.slice (some ⟨w.heap.size, 0, none⟩) 0 0) [] := ownI_lit0 w
        have hIm : IntsAt (w.alloc (.cells #[] 3)).heap.size (w.alloc (.cells #[] 3)) (some ⟨b, off, none⟩) (l.take m) := ints_take (hI.below ((Below.refl _ w).alloc (Nat.le_refl _) _)) m (by simp)
        have hlm : (l.take m).length = m := by rw [List.length_take]; omega
        have hD := D_take hd0.out (k := m) (by omega) hv.out (fun _ => by rw [HD.out]; exact hz)
        have HDD := Lib.hid hD; clear hD
        have HNIL := Lib.hid hnil; clear hnil
        have HLM := Lib.hid hlm; clear hlm
        go_wp2_with (first
          | (at_builtin; refine appSl rfl (.tmp 18) (.tmp 21) rfl w.heap.size _ [] rfl HNIL.out _ _ _ (l.take m) rfl HLM.out hIm (by simp; omega) (by simp) ?_; intro v1 w1 hown1 hb1))
        go_ret
        exact ⟨_, rfl, by rw [← HDD.out]; exact hown1, ((Below.refl _ w).alloc (Nat.le_refl _) _).trans hb1⟩
    · have : m = 0 := by omega
      subst this
      have hv0 : nv l = 0 := by have := hv.out; rw [List.take_zero, nv_nil] at this; exact this.symm
      have HV := Lib.hid hv0; clear hv0
      have hnil : OwnI (w.alloc (.cells #[] 3)) w.heap.size (.slice (some ⟨w.heap.size, 0, none⟩) 0 0) [] := ownI_lit0 w
      have HNIL := Lib.hid hnil; clear hnil
      have hI0 : ∀ X, IntsAt (w.alloc (.cells #[] 3)).heap.size (w.alloc (.cells #[] 3)) X [] := fun X => IntsAt.nil _ _ _
      rcases A with _ | ad
      all_goals
        go_wp2_with (first
          | (at_builtin; refine appSl rfl (.tmp 18) (.tmp 21) rfl w.heap.size _ [] rfl HNIL.out _ _ _ [] rfl rfl (hI0 _) (by simp) (by simp) ?_; intro v1 w1 hown1 hb1))
        go_ret
        exact ⟨_, rfl, by rw [HV.out, D_zero]; exact hown1, ((Below.refl _ w).alloc (Nat.le_refl _) _).trans hb1⟩

/-- A digit of a list, or 0. -/
theorem rdigit_any (l : List Int) (i : Nat) (v : Value) (w : World) (h : Sv w v l) (d : Int) (hd : l.getD i 0 = d) :
    Calls Try.prog 94 #[v, .int .i64 i] w fun e w' => e = .returned (.int .i64 d) ∧ w = w' := by
  obtain ⟨A, c, rfl, hnc, hcm, hI⟩ := h
  by_cases hlt : i < l.length
  · obtain ⟨b, off, hA, _, hc⟩ := hI i hlt
    subst hA
    rw [hd] at hc
    clear hd
    obtain ⟨n, hn⟩ : ∃ n, l.length = n := ⟨_, rfl⟩
    rw [hn] at hnc hlt ⊢
    clear hn hI
    go_enter Try.func94, Try.ntmps94
    go_wp2_with fail
    go_ret
    exact ⟨rfl, rfl⟩
  · have hd0 : d = 0 := by rw [← hd, List.getD_eq_getElem?_getD, List.getElem?_eq_none (by omega)]; rfl
    subst hd0
    clear hd
    obtain ⟨n, hn⟩ : ∃ n, l.length = n := ⟨_, rfl⟩
    rw [hn] at hnc hlt ⊢
    clear hn hI
    have hlt' : decide (i < n) = false := by simpa using hlt
    go_enter Try.func94, Try.ntmps94
    go_wp2_with fail
    go_ret
    exact ⟨rfl, rfl⟩

end Go.Proofs.Ytlbjaimgoiimgaa

namespace Go.Proofs.Ytlbjaimgoiimgaa
open Go.RowKit

theorem nv_take_any (l : List Int) (k : Nat) : nv (l.take (k + 1)) = nv (l.take k) + pw k * l.getD k 0 := by
  rcases Nat.lt_or_ge k l.length with h | h
  · exact nv_take_succ h
  · rw [List.take_of_length_le (by omega), List.take_of_length_le (by omega), List.getD_eq_getElem?_getD, List.getElem?_eq_none h]
    simp
theorem nv_drop (l : List Int) (k : Nat) : nv l = nv (l.take k) + pw k * nv (l.drop k) := by
  rcases Nat.lt_or_ge k l.length with h | h
  · have h1 := nv_append (l.take k) (l.drop k)
    rw [List.take_append_drop, List.length_take, Nat.min_eq_left (by omega)] at h1
    exact h1
  · rw [List.take_of_length_le h, List.drop_eq_nil_of_le h, nv_nil]; simp
theorem nv_drop_any (l : List Int) (k : Nat) : nv (l.drop k) = l.getD k 0 + 1048576 * nv (l.drop (k + 1)) := by
  rcases Nat.lt_or_ge k l.length with h | h
  · rw [List.drop_eq_getElem_cons h, nv_cons, List.getD_eq_getElem?_getD, List.getElem?_eq_getElem h]; rfl
  · rw [List.drop_eq_nil_of_le h, List.drop_eq_nil_of_le (by omega), List.getD_eq_getElem?_getD, List.getElem?_eq_none h]; rfl
theorem Dig.take_lt {l : List Int} (h : Dig l) (k : Nat) : 0 ≤ nv (l.take k) ∧ nv (l.take k) < pw k := by
  have h1 := (h.take k).nv_nonneg
  have h2 := (h.take k).nv_lt
  have h3 := pw_le (show (l.take k).length ≤ k by rw [List.length_take]; omega)
  omega
/-- Where the higher digits agree and one differs, it decides. -/
theorem less_of {a b : List Int} (ha : Dig a) (hb : Dig b) {k : Nat} (h : nv (a.drop (k + 1)) = nv (b.drop (k + 1))) (hd : a.getD k 0 < b.getD k 0) : nv a < nv b := by
  have h1 := nv_drop a k
  have h2 := nv_drop b k
  rw [nv_drop_any] at h1 h2
  have h3 := ha.take_lt k
  have h4 := hb.take_lt k
  rw [h] at h1
  obtain ⟨U, hU⟩ : ∃ U, nv (b.drop (k + 1)) = U := ⟨_, rfl⟩
  rw [hU] at h1 h2
  have h5 : pw k * (a.getD k 0 + 1048576 * U) + pw k ≤ pw k * (b.getD k 0 + 1048576 * U) := by
    have h6 := Int.mul_add (pw k) (a.getD k 0 + 1048576 * U) 1
    rw [Int.mul_one] at h6
    rw [← h6]
    exact Int.mul_le_mul_of_nonneg_left (by omega) (by have := pw_pos k; omega)
  omega

set_option maxRecDepth 100000 in
set_option maxHeartbeats 2000000 in
theorem rless_any (a b : List Int) (va vb : Value) (w : World) (h1 : Sv w va a) (h2 : Sv w vb b) (ha : Dig a) (hb : Dig b) (hla : a.length ≤ 1000) (hlb : b.length ≤ 1000) (r : Bool) (hr : r = decide (nv a < nv b)) :
    Calls Try.prog 92 #[va, vb] w fun e w' => e = .returned (.bool r) ∧ w = w' := by
  have hda := fun i d (hd : a.getD i 0 = d) => rdigit_any a i va w h1 d hd
  have hdb := fun i d (hd : b.getD i 0 = d) => rdigit_any b i vb w h2 d hd
  obtain ⟨A, c, rfl, _, _, _⟩ := h1
  obtain ⟨B, c', rfl, _, _, _⟩ := h2
  obtain ⟨n, hn⟩ : ∃ n, a.length = n := ⟨_, rfl⟩
  obtain ⟨m, hm⟩ : ∃ n, b.length = n := ⟨_, rfl⟩
  have hN : (max n m : Nat) ≤ 1000 := by omega
  have hmax : max (n : Int) (m : Int) = ((max n m : Nat) : Int) := by omega
  have hdr : nv (a.drop (max n m)) = nv (b.drop (max n m)) := by rw [List.drop_eq_nil_of_le (by omega), List.drop_eq_nil_of_le (by omega)]
  rw [hn] at hda hla ⊢
  rw [hm] at hdb hlb ⊢
  obtain ⟨N, hNN⟩ : ∃ N, (max n m : Nat) = N := ⟨_, rfl⟩
  rw [hNN] at hN hmax hdr
  have HDA := Lib.hid hda; clear hda
  have HDB := Lib.hid hdb; clear hdb
  have HDR := Lib.hid hdr; clear hdr
  have HR := Lib.hid hr; clear hr
  have HA := Lib.hid ha; clear ha
  have HB := Lib.hid hb; clear hb
  clear hn hm hNN
  go_enter Try.func92, Try.ntmps92
  go_wp2_with fail
  clear hmax
  go_loop [5] (fun i => ∃ k : Nat, k ≤ N ∧ i = .int .i64 ((k : Int) - 1) ∧ Hid (nv (a.drop k) = nv (b.drop k))) (fun i => (intOf i + 1).toNat)
  case atStart => exact ⟨N, Nat.le_refl _, rfl, HDR⟩
  case round =>
    obtain ⟨k, hk, rfl, hv⟩ := hrel
    by_cases h0 : 0 < k
    · obtain ⟨j, rfl⟩ : ∃ j, k = j + 1 := ⟨k - 1, by omega⟩
      have hj : ((j + 1 : Nat) : Int) - 1 = (j : Int) := by omega
      rw [hj]
      clear hj h0
      obtain ⟨x, hx⟩ : ∃ x, a.getD j 0 = x := ⟨_, rfl⟩
      obtain ⟨y, hy⟩ : ∃ x, b.getD j 0 = x := ⟨_, rfl⟩
      have HX := Lib.hid hx; clear hx
      have HY := Lib.hid hy; clear hy
      go_wp2_with fail
      (with_reducible refine (HDA.out j x HX.out).mono ?_)
      rintro e w1 ⟨rfl, rfl⟩
      go_wp2_with fail
      (with_reducible refine (HDB.out j y HY.out).mono ?_)
      rintro e w1 ⟨rfl, rfl⟩
      by_cases hxy : x = y
      · subst hxy
        go_wp2_with fail
        go_round
        case rel => exact ⟨j, by omega, by first | rfl | go_num, Lib.hid (by rw [nv_drop_any, nv_drop_any b, HX.out, HY.out, hv.out])⟩
        case measure => simp [intOf]
      · have hne : (x != y) = true := by simpa using hxy
        have hres : decide (x < y) = r := by
          rw [HR.out, decide_eq_decide]
          constructor
          · intro h; exact less_of HA.out HB.out hv.out (by rw [HX.out, HY.out]; exact h)
          · intro h
            rcases Int.lt_or_gt_of_ne hxy with g | g
            · exact g
            · have := less_of HB.out HA.out hv.out.symm (by rw [HX.out, HY.out]; exact g)
              omega
        have HRES := Lib.hid hres; clear hres
        go_wp2_with fail
        (with_reducible refine (HDA.out j x HX.out).mono ?_)
        rintro e w1 ⟨rfl, rfl⟩
        go_wp2_with fail
        (with_reducible refine (HDB.out j y HY.out).mono ?_)
        rintro e w1 ⟨rfl, rfl⟩
        go_wp2_with fail
        go_ret
        exact ⟨by rw [← HRES.out]; rfl, rfl⟩
    · have : k = 0 := by omega
      subst this
      have hres : r = false := by
        rw [HR.out, decide_eq_false_iff_not]
        have := hv.out
        rw [List.drop_zero, List.drop_zero] at this
        omega
      subst hres
      go_wp2_with fail
      go_ret
      exact ⟨rfl, rfl⟩

theorem plus_step {a b o : List Int} {k : Nat} {c x y : Int} (hl : o.length = k) (h : nv o + pw k * c = nv (a.take k) + nv (b.take k)) (hx : a.getD k 0 = x) (hy : b.getD k 0 = y) :
    nv (o ++ [(x + y + c) % 1048576]) + pw (k + 1) * ((x + y + c) / 1048576) = nv (a.take (k + 1)) + nv (b.take (k + 1)) := by
  rw [nv_snoc, hl, nv_take_any, nv_take_any, hx, hy, pw_succ]
  have e1 : 1048576 * pw k * ((x + y + c) / 1048576) = pw k * (1048576 * ((x + y + c) / 1048576)) := by rw [Int.mul_comm 1048576, Int.mul_assoc]
  rw [e1]
  have e2 : pw k * ((x + y + c) % 1048576) + pw k * (1048576 * ((x + y + c) / 1048576)) = pw k * (x + y + c) := by rw [← Int.mul_add]; congr 1; omega
  have e3 : pw k * (x + y + c) = pw k * x + pw k * y + pw k * c := by rw [Int.mul_add, Int.mul_add]
  omega
theorem plus_end {a b o : List Int} {k : Nat} {c : Int} (ha : Dig a) (hb : Dig b) (ho : Dig o) (h : nv o + pw k * c = nv (a.take k) + nv (b.take k)) (hk : a.length < k) (hk2 : b.length < k) (hc : 0 ≤ c) : c = 0 := by
  rw [List.take_of_length_le (by omega), List.take_of_length_le (by omega)] at h
  have h1 := ha.nv_lt
  have h2 := hb.nv_lt
  have h3 := pw_le (show a.length ≤ k - 1 by omega)
  have h4 := pw_le (show b.length ≤ k - 1 by omega)
  have h5 := pw_succ (k - 1)
  rw [show k - 1 + 1 = k by omega] at h5
  have h6 := ho.nv_nonneg
  have h7 := pw_pos (k - 1)
  rcases Int.lt_or_eq_of_le hc with g | g
  · have : pw k * 1 ≤ pw k * c := Int.mul_le_mul_of_nonneg_left (by omega) (by omega)
    omega
  · exact g.symm

set_option maxRecDepth 100000 in
set_option maxHeartbeats 2000000 in
theorem rplus_any (a b : List Int) (va vb : Value) (w : World) (h1 : Sv w va a) (h2 : Sv w vb b) (ha : Dig a) (hb : Dig b) (hla : a.length ≤ 1000) (hlb : b.length ≤ 1000) :
    Calls Try.prog 79 #[va, vb] w fun e w' => ∃ v', e = .returned v' ∧ OwnI w' w.heap.size v' (D (nv a + nv b)) ∧ Below w.heap.size w w' := by
  have hda := fun (w' : World) (hb : Below w.heap.size w w') i d (hd : a.getD i 0 = d) => rdigit_any a i va w' (h1.later hb) d hd
  have hdb := fun (w' : World) (hb : Below w.heap.size w w') i d (hd : b.getD i 0 = d) => rdigit_any b i vb w' (h2.later hb) d hd
  obtain ⟨A, c, rfl, _, _, _⟩ := h1
  obtain ⟨B, c', rfl, _, _, _⟩ := h2
  obtain ⟨n, hn⟩ : ∃ n, a.length = n := ⟨_, rfl⟩
  obtain ⟨m, hm⟩ : ∃ n, b.length = n := ⟨_, rfl⟩
  have hnm : a.length ≤ n ∧ b.length ≤ m := by omega
  rw [hn] at hda hla ⊢
  rw [hm] at hdb hlb ⊢
  have HDA := Lib.hid hda; clear hda
  have HDB := Lib.hid hdb; clear hdb
  have HA := Lib.hid ha; clear ha
  have HB := Lib.hid hb; clear hb
  clear hn hm
  go_enter Try.func79, Try.ntmps79
  go_wp2_with fail
  go_loopw [5, 6, 7] (fun o cc i wr => ∃ (k : Nat) (l : List Int) (z : Int), i = .int .i64 k ∧ cc = .int .i64 z ∧ OwnI wr w.heap.size o l ∧ Hid (l.length = k) ∧ Dig l ∧ 0 ≤ z ∧ z ≤ 1 ∧ Hid (nv l + pw k * z = nv (a.take k) + nv (b.take k)) ∧ k ≤ max n m + 1 ∧ Below w.heap.size w wr) (fun _ _ i _ => (2000 - intOf i).toNat)
  case atStart => exact ⟨0, [], 0, rfl, rfl, OwnI.nil _ _, Lib.hid rfl, Dig.nil, by omega, by omega, Lib.hid rfl, by omega, Below.refl _ _⟩
  case round =>
    obtain ⟨k, l, z, rfl, rfl, hown, hlen, hdig, hz0, hz1, hv, hk, hbw⟩ := hrel
    have hs := hbw.size
    have hl9 : l.length ≤ 10000000 := by have := hlen.out; omega
    by_cases hgo : k < n ∨ k < m ∨ 0 < z
    · have hk2 : k < max n m + 1 := by
        rcases hgo with g | g | g
        · omega
        · omega
        · rcases Nat.lt_or_ge k (max n m + 1) with g2 | g2
          · exact g2
          · have := plus_end HA.out HB.out hdig hv.out (by omega) (by omega) hz0
            omega
      obtain ⟨x, hx⟩ : ∃ x, a.getD k 0 = x := ⟨_, rfl⟩
      obtain ⟨y, hy⟩ : ∃ x, b.getD k 0 = x := ⟨_, rfl⟩
      have bx := HA.out.getD' k
      have by_ := HB.out.getD' k
      rw [hx] at bx
      rw [hy] at by_
      obtain ⟨bx0, bx1⟩ := bx
      obtain ⟨by0, by1⟩ := by_
      have hst := plus_step hlen.out hv.out hx hy
      have HST := Lib.hid hst; clear hst
      have HX := Lib.hid hx; clear hx
      have HY := Lib.hid hy; clear hy
      have hpart : (k < n) ∨ (¬ k < n ∧ k < m) ∨ (¬ k < n ∧ ¬ k < m ∧ 0 < z) := by omega
      clear hgo hnm
      rcases hpart with g1 | ⟨g1, g2⟩ | ⟨g1, g2, g3⟩
      · have q1 : decide (k < n) = true := by simpa using g1
        go_wp2_with fail
        (with_reducible refine (HDA.out _ hbw k x HX.out).mono ?_)
        rintro e w1 ⟨rfl, rfl⟩
        go_wp2_with fail
        (with_reducible refine (HDB.out _ hbw k y HY.out).mono ?_)
        rintro e w1 ⟨rfl, rfl⟩
        go_wp2_with (first
          | (at_builtin; refine appI rfl (.tmp 34) (.tmp 37) rfl w.heap.size _ l ((x + y + z) % 1048576) rfl hown rfl hl9 hs ?_; intro v1 w1 hown1 hb1))
        go_roundw
        case rel => exact ⟨k + 1, _, _, by go_num, rfl, hown1, Lib.hid (by simp [hlen.out]), hdig.snoc (by omega) (by omega), by omega, by omega, HST, by omega, hbw.trans hb1⟩
        case measure => simp [intOf]; omega
      · have q1 : decide (k < n) = false := by simpa using g1
        have q2 : decide (k < m) = true := by simpa using g2
        go_wp2_with fail
        (with_reducible refine (HDA.out _ hbw k x HX.out).mono ?_)
        rintro e w1 ⟨rfl, rfl⟩
        go_wp2_with fail
        (with_reducible refine (HDB.out _ hbw k y HY.out).mono ?_)
        rintro e w1 ⟨rfl, rfl⟩
        go_wp2_with (first
          | (at_builtin; refine appI rfl (.tmp 34) (.tmp 37) rfl w.heap.size _ l ((x + y + z) % 1048576) rfl hown rfl hl9 hs ?_; intro v1 w1 hown1 hb1))
        go_roundw
        case rel => exact ⟨k + 1, _, _, by go_num, rfl, hown1, Lib.hid (by simp [hlen.out]), hdig.snoc (by omega) (by omega), by omega, by omega, HST, by omega, hbw.trans hb1⟩
        case measure => simp [intOf]; omega
      · have q1 : decide (k < n) = false := by simpa using g1
        have q2 : decide (k < m) = false := by simpa using g2
        go_wp2_with fail
        (with_reducible refine (HDA.out _ hbw k x HX.out).mono ?_)
        rintro e w1 ⟨rfl, rfl⟩
        go_wp2_with fail
        (with_reducible refine (HDB.out _ hbw k y HY.out).mono ?_)
        rintro e w1 ⟨rfl, rfl⟩
        go_wp2_with (first
          | (at_builtin; refine appI rfl (.tmp 34) (.tmp 37) rfl w.heap.size _ l ((x + y + z) % 1048576) rfl hown rfl hl9 hs ?_; intro v1 w1 hown1 hb1))
        go_roundw
        case rel => exact ⟨k + 1, _, _, by go_num, rfl, hown1, Lib.hid (by simp [hlen.out]), hdig.snoc (by omega) (by omega), by omega, by omega, HST, by omega, hbw.trans hb1⟩
        case measure => simp [intOf]; omega
    · have hz : z = 0 := by omega
      subst hz
      have g1 : ¬ k < n := by omega
      have g2 : ¬ k < m := by omega
      have q1 : decide (k < n) = false := by simpa using g1
      have q2 : decide (k < m) = false := by simpa using g2
      have he : nv l = nv a + nv b := by
        have := hv.out
        rw [List.take_of_length_le (by omega), List.take_of_length_le (by omega)] at this
        omega
      have HE := Lib.hid he; clear he hgo hnm
      go_wp2_with fail
      (with_reducible refine (rtrim_any l _ _ hown.sv hdig (by have := hlen.out; omega)).mono ?_)
      rintro e w1 ⟨v1, rfl, hv1, hb1⟩
      go_wp2_with fail
      go_ret
      exact ⟨_, rfl, by rw [← HE.out]; exact hv1.mono hs, hbw.trans (hb1.mono hs)⟩

theorem below_dr {B : Nat} {w w' : World} (h : Below B w w') (n : Nat) : Below B w (w'.drewN n) := ⟨h.os, h.tape, h.output, h.size, h.block⟩
theorem minus_step {a b o : List Int} {k : Nat} {c x y d e : Int} (hl : o.length = k) (h : nv o - pw k * c = nv (a.take k) - nv (b.take k)) (hx : a.getD k 0 = x) (hy : b.getD k 0 = y) (hde : d - 1048576 * e = x - y - c) :
    nv (o ++ [d]) - pw (k + 1) * e = nv (a.take (k + 1)) - nv (b.take (k + 1)) := by
  rw [nv_snoc, hl, nv_take_any, nv_take_any, hx, hy, pw_succ]
  have e1 : 1048576 * pw k * e = pw k * (1048576 * e) := by rw [Int.mul_comm 1048576, Int.mul_assoc]
  rw [e1]
  have e2 : pw k * d - pw k * (1048576 * e) = pw k * (x - y - c) := by rw [← Int.mul_sub, hde]
  have e3 : pw k * (x - y - c) = pw k * x - pw k * y - pw k * c := by rw [Int.mul_sub, Int.mul_sub]
  omega

set_option maxRecDepth 100000 in
set_option maxHeartbeats 2000000 in
theorem rminus_any (a b : List Int) (va vb : Value) (w : World) (h1 : Sv w va a) (h2 : Sv w vb b) (ha : Dig a) (hb : Dig b) (hla : a.length ≤ 1000) (hlb : b.length ≤ a.length) (hge : nv b ≤ nv a) :
    Calls Try.prog 80 #[va, vb] w fun e w' => ∃ v', e = .returned v' ∧ OwnI w' w.heap.size v' (D (nv a - nv b)) ∧ Below w.heap.size w w' := by
  have hdb := fun (w' : World) (hb : Below w.heap.size w w') i d (hd : b.getD i 0 = d) => rdigit_any b i vb w' (h2.later hb) d hd
  obtain ⟨A, c, rfl, _, _, hI⟩ := h1
  obtain ⟨B, c', rfl, _, _, _⟩ := h2
  obtain ⟨n, hn⟩ : ∃ n, a.length = n := ⟨_, rfl⟩
  obtain ⟨m, hm⟩ : ∃ n, b.length = n := ⟨_, rfl⟩
  have hnm : a.length ≤ n ∧ b.length ≤ n := by omega
  rw [hn] at hla ⊢
  rw [hm] at hdb ⊢
  have HDB := Lib.hid hdb; clear hdb
  have HA := Lib.hid ha; clear ha
  have HB := Lib.hid hb; clear hb
  have HGE := Lib.hid hge; clear hge
  have HIA := Lib.hid hI; clear hI
  have HNN : Hid (a.length = n) := Lib.hid hn
  clear hn hm hlb
  go_enter Try.func80, Try.ntmps80
  go_wp2_with fail
  go_loopw [5, 6, 7] (fun o cc i wr => ∃ (k : Nat) (l : List Int) (z : Int), i = .int .i64 k ∧ cc = .int .i64 z ∧ OwnI wr w.heap.size o l ∧ Hid (l.length = k) ∧ Dig l ∧ 0 ≤ z ∧ z ≤ 1 ∧ Hid (nv l - pw k * z = nv (a.take k) - nv (b.take k)) ∧ k ≤ n ∧ Below w.heap.size w wr) (fun _ _ i _ => (2000 - intOf i).toNat)
  case atStart => exact ⟨0, [], 0, rfl, rfl, OwnI.nil _ _, Lib.hid rfl, Dig.nil, by omega, by omega, Lib.hid rfl, by omega, Below.refl _ _⟩
  case round =>
    obtain ⟨k, l, z, rfl, rfl, hown, hlen, hdig, hz0, hz1, hv, hk, hbw⟩ := hrel
    have hs := hbw.size
    have hl9 : l.length ≤ 10000000 := by have := hlen.out; omega
    by_cases hlt : k < n
    · obtain ⟨bb, off, hA, hbb, hc⟩ := HIA.out k (by have := HNN.out; omega)
      subst hA
      have hc := (hbw.cell (p := ⟨bb, off + k, none⟩) hbb).trans hc
      obtain ⟨x, hx⟩ : ∃ x, a.getD k 0 = x := ⟨_, rfl⟩
      obtain ⟨y, hy⟩ : ∃ x, b.getD k 0 = x := ⟨_, rfl⟩
      have bx := HA.out.getD' k
      have by_ := HB.out.getD' k
      rw [hx] at bx hc
      rw [hy] at by_
      obtain ⟨bx0, bx1⟩ := bx
      obtain ⟨by0, by1⟩ := by_
      have hst := fun d e (h : d - 1048576 * e = x - y - z) => minus_step hlen.out hv.out hx hy h
      have HST := Lib.hid hst; clear hst
      have HX := Lib.hid hx; clear hx
      have hdc := fun nq => (HDB.out (wr.drewN nq) (below_dr hbw nq) k y hy).mono fun _ _ h => (⟨h.1, h.2.symm⟩ : _ ∧ _ = _)
      have HDC := Lib.hid hdc; clear hdc
      have HY := Lib.hid hy; clear hy
      clear hnm
      have how := fun q => (show OwnI (wr.drewN q) w.heap.size _ l from hown)
      have HOW := Lib.hid how; clear how
      by_cases hneg : x - y - z < 0
      · have q1 : decide (x - y - z < 0) = true := by simpa using hneg
        go_wp2_with fail
        go_quiet ((go_at_call 94; exact Calls.quiet_of_same (HDC.out _)))
        go_wp2_with (first
          | (at_builtin; refine appI rfl (.tmp 29) (.tmp 31) rfl w.heap.size _ l (x - y - z + 1048576) rfl (HOW.out _) rfl hl9 hs ?_; intro v1 w1 hown1 hb1))
        go_roundw
        case rel => exact ⟨k + 1, _, 1, by go_num, rfl, hown1, Lib.hid (by simp [hlen.out]), hdig.snoc (by omega) (by omega), by omega, by omega, Lib.hid (HST.out _ _ (by omega)), by omega, (below_dr hbw _).trans hb1⟩
        case measure => simp [intOf]; omega
      · have q1 : decide (x - y - z < 0) = false := by simpa using hneg
        go_wp2_with fail
        go_quiet ((go_at_call 94; exact Calls.quiet_of_same (HDC.out _)))
        go_wp2_with (first
          | (at_builtin; refine appI rfl (.tmp 29) (.tmp 31) rfl w.heap.size _ l (x - y - z) rfl (HOW.out _) rfl hl9 hs ?_; intro v1 w1 hown1 hb1))
        go_roundw
        case rel => exact ⟨k + 1, _, 0, by go_num, rfl, hown1, Lib.hid (by simp [hlen.out]), hdig.snoc (by omega) (by omega), by omega, by omega, Lib.hid (HST.out _ _ (by omega)), by omega, (below_dr hbw _).trans hb1⟩
        case measure => simp [intOf]; omega
    · have he : nv l = nv a - nv b := by
        have h1 := hv.out
        rw [List.take_of_length_le (by omega), List.take_of_length_le (by omega)] at h1
        have h2 := hdig.nv_lt
        have h3 := pw_le (show l.length ≤ k by have := hlen.out; omega)
        have h4 := HGE.out
        rcases Int.lt_or_eq_of_le hz0 with g | g
        · have : pw k * 1 ≤ pw k * z := Int.mul_le_mul_of_nonneg_left (by omega) (by have := pw_pos k; omega)
          omega
        · rw [← g, Int.mul_zero] at h1; omega
      have HE := Lib.hid he; clear he hnm
      go_wp2_with fail
      (with_reducible refine (rtrim_any l _ _ hown.sv hdig (by have := hlen.out; omega)).mono ?_)
      rintro e w1 ⟨v1, rfl, hv1, hb1⟩
      go_wp2_with fail
      go_ret
      exact ⟨_, rfl, by rw [← HE.out]; exact hv1.mono hs, hbw.trans (hb1.mono hs)⟩

end Go.Proofs.Ytlbjaimgoiimgaa
