/- Boxes of fractions as they came in; Add, Sub, Mul, Div and Compare where one is not right. Printed by a program (fbad.py). Walks: Of of fractions, and the laws' own. Printed by a program. Walks: the laws' right, at a right fraction. -/
import Derived.Test.YtbhdkgieahnojaaGreatDoorXas
import Derived.Test.YtbhdkgieahnojaaGreatDoorXat
import Derived.Test.YtbhdkgieahnojaaGreatDoorXar
import Derived.Test.YtbhdkgieahnojaaGreatDoorXal

namespace Go.Proofs.YtbhdkgieahnojaaGreatDoor
open Go.RowKit

/-- A box that holds a fraction as it came in. -/
structure Af (W : World) (g : Nat) (s1 : Int) (l1 : List Int) (A1 : Option Addr) (n1 c1 : Nat) (s2 : Int) (l2 : List Int) (A2 : Option Addr) (n2 c2 : Nat) : Prop where
  blk : Blk W g 43 #[.int .i64 s1, .slice A1 n1 c1, .int .i64 s2, .slice A2 n2 c2]
  a : Ar W s1 l1 A1 n1 c1
  b : Ar W s2 l2 A2 n2 c2
section
variable {W W' w : World} {g : Nat} {s1 s2 s3 s4 : Int} {l1 l2 l3 l4 : List Int} {A1 A2 A3 A4 : Option Addr} {n1 d1 n2 d2 n3 d3 n4 d4 : Nat}
theorem Af.below (h : Af W g s1 l1 A1 n1 d1 s2 l2 A2 n2 d2) (hb : Below W.heap.size W W') : Af W' g s1 l1 A1 n1 d1 s2 l2 A2 n2 d2 := ⟨h.blk.below hb h.blk.lt, h.a.later hb, h.b.later hb⟩
theorem Af.c0 (h : Af W g s1 l1 A1 n1 d1 s2 l2 A2 n2 d2) : W.cell? ⟨g, 0, none⟩ = some (.int .i64 s1) := h.blk.cell 0
theorem Af.c1 (h : Af W g s1 l1 A1 n1 d1 s2 l2 A2 n2 d2) : W.cell? ⟨g, 1, none⟩ = some (.slice A1 n1 d1) := h.blk.cell 1
theorem Af.c2 (h : Af W g s1 l1 A1 n1 d1 s2 l2 A2 n2 d2) : W.cell? ⟨g, 2, none⟩ = some (.int .i64 s2) := h.blk.cell 2
theorem Af.c3 (h : Af W g s1 l1 A1 n1 d1 s2 l2 A2 n2 d2) : W.cell? ⟨g, 3, none⟩ = some (.slice A2 n2 d2) := h.blk.cell 3
/-- If it is right, it reads as a rational number. -/
theorem Af.bf (h : Af W g s1 l1 A1 n1 d1 s2 l2 A2 n2 d2) (hr : RF s1 l1 s2 l2) :
    ∃ x : Rat, Bf 43 W g s1 A1 n1 d1 s2 A2 n2 d2 x.num x.den ∧ s1 = sgn x.num ∧ Rb x 60 60 ∧ ∀ k : Nat, (n1 ≤ k ∧ n2 ≤ k) → Rb x k k := by
  obtain ⟨x, h1, h2, h3, h4, h5, h6⟩ := hr.fv h.a h.b
  exact ⟨x, ⟨h.blk, h1⟩, h2, ⟨h3, h4⟩, fun k hk => ⟨h5 k hk.1, h6 k hk.2⟩⟩
theorem afboxes1 (h1 : Ar w s1 l1 A1 n1 d1) (h2 : Ar w s2 l2 A2 n2 d2) (h3 : Ar w s3 l3 A3 n3 d3) (h4 : Ar w s4 l4 A4 n4 d4) :
    ∃ W, W = (w.alloc (.cells #[.int .i64 s1, .slice A1 n1 d1, .int .i64 s2, .slice A2 n2 d2] 43)).alloc (.cells #[.int .i64 s3, .slice A3 n3 d3, .int .i64 s4, .slice A4 n4 d4] 43) ∧ Below w.heap.size w W ∧ Af W w.heap.size s1 l1 A1 n1 d1 s2 l2 A2 n2 d2 ∧ Af W (w.heap.size + 1) s3 l3 A3 n3 d3 s4 l4 A4 n4 d4 := by
  have hb1 : Below w.heap.size w (w.alloc (.cells #[.int .i64 s1, .slice A1 n1 d1, .int .i64 s2, .slice A2 n2 d2] 43)) := (Below.refl _ _).alloc (Nat.le_refl _) _
  have hb2 := hb1.alloc hb1.size (.cells #[.int .i64 s3, .slice A3 n3 d3, .int .i64 s4, .slice A4 n4 d4] 43)
  have k1 := Blk.new w 43 #[.int .i64 s1, .slice A1 n1 d1, .int .i64 s2, .slice A2 n2 d2]
  have k2 := Blk.new (w.alloc (.cells #[.int .i64 s1, .slice A1 n1 d1, .int .i64 s2, .slice A2 n2 d2] 43)) 43 #[.int .i64 s3, .slice A3 n3 d3, .int .i64 s4, .slice A4 n4 d4]
  simp only [World.size_alloc] at k2
  exact ⟨_, rfl, hb2, ⟨k1.alloc _, h1.later hb2, h2.later hb2⟩, ⟨k2, h3.later hb2, h4.later hb2⟩⟩
theorem afboxes2 (h1 : Ar w s1 l1 A1 n1 d1) (h2 : Ar w s2 l2 A2 n2 d2) (h3 : Ar w s3 l3 A3 n3 d3) (h4 : Ar w s4 l4 A4 n4 d4) :
    ∃ W, W = ((w.alloc (.cells #[.int .i64 s1, .slice A1 n1 d1, .int .i64 s2, .slice A2 n2 d2] 43)).alloc (.cells #[.int .i64 s3, .slice A3 n3 d3, .int .i64 s4, .slice A4 n4 d4] 43)).alloc (.cells #[.int .i64 0, .slice none 0 0, .int .i64 0, .slice none 0 0] 43) ∧ Below w.heap.size w W ∧ Af W w.heap.size s1 l1 A1 n1 d1 s2 l2 A2 n2 d2 ∧ Af W (w.heap.size + 1) s3 l3 A3 n3 d3 s4 l4 A4 n4 d4 ∧
      Bz W (w.heap.size + 1 + 1) (.int .i64 0) (.slice none 0 0) (.int .i64 0) (.slice none 0 0) := by
  obtain ⟨W, hW, hb, k1, k2⟩ := afboxes1 h1 h2 h3 h4
  rw [← hW]
  have hs : W.heap.size = w.heap.size + 1 + 1 := by rw [hW]; simp
  have h3 := Blk.new W 43 #[.int .i64 0, .slice none 0 0, .int .i64 0, .slice none 0 0]
  rw [hs] at h3
  have hb' : Below W.heap.size W (W.alloc (.cells #[.int .i64 0, .slice none 0 0, .int .i64 0, .slice none 0 0] 43)) := (Below.refl _ _).alloc (Nat.le_refl _) _
  exact ⟨_, rfl, hb.alloc hb.size _, k1.below hb', k2.below hb', ⟨h3⟩⟩
end

set_option maxRecDepth 100000 in
set_option maxHeartbeats 8000000 in
theorem combine_bad {s1 s2 s3 s4 : Int} {l1 l2 l3 l4 : List Int} {A1 A2 A3 A4 : Option Addr} {n1 d1 n2 d2 n3 d3 n4 d4 : Nat} (w : World) (op : Nat) (h1 : Ar w s1 l1 A1 n1 d1) (h2 : Ar w s2 l2 A2 n2 d2) (h3 : Ar w s3 l3 A3 n3 d3) (h4 : Ar w s4 l4 A4 n4 d4) (hb : ¬ (RF s1 l1 s2 l2 ∧ RF s3 l3 s4 l4)) :
    Calls Tryz.prog 97 #[.agg #[.int .i64 s1, .slice A1 n1 d1, .int .i64 s2, .slice A2 n2 d2], .agg #[.int .i64 s3, .slice A3 n3 d3, .int .i64 s4, .slice A4 n4 d4], .func (.func op) #[] #[]] w fun e w' => e = .returned (.tuple #[.agg #[.int .i64 0, .slice none 0 0, .int .i64 0, .slice none 0 0], .int .i64 1]) ∧ Below w.heap.size w w' := by
  have HB := Lib.hid hb; clear hb
  go_enter Tryz.func97, Tryz.ntmps97
  go_wp2_with fail
  obtain ⟨W0, hW, hbx, ka, kb, kR⟩ := afboxes2 h1 h2 h3 h4
  rw [← hW]
  clear hW h1 h2 h3 h4
  have hT := hbx
  have za0 := ka.c0
  have za1 := ka.c1
  have za2 := ka.c2
  have za3 := ka.c3
  go_wp2_with fail
  clear za0 za1 za2 za3
  by_cases hr : RF s1 l1 s2 l2
  · (with_reducible refine (fright_any _ ka.a ka.b true (by simp [hr])).mono ?_)
    rintro e u1 ⟨rfl, hb9⟩
    have hT := hT.trans (hb9.mono hT.size)
    have ka := ka.below hb9
    have kb := kb.below hb9
    have kR := kR.below hb9
    have zb0 := kb.c0
    have zb1 := kb.c1
    have zb2 := kb.c2
    have zb3 := kb.c3
    go_wp2_with fail
    clear zb0 zb1 zb2 zb3
    (with_reducible refine (fright_any _ kb.a kb.b false (by simp only [Bool.false_eq_true, false_iff]; exact fun h => absurd ⟨hr, h⟩ HB.out)).mono ?_)
    rintro e u2 ⟨rfl, hb9⟩
    have hT := hT.trans (hb9.mono hT.size)
    have ka := ka.below hb9
    have kb := kb.below hb9
    have kR := kR.below hb9
    clear ka kb
    have gR : w.heap.size ≤ w.heap.size + 1 + 1 := by omega
    have r0 := kR.blk.cell 0
    have r1 := kR.blk.cell 1
    have r2 := kR.blk.cell 2
    have r3 := kR.blk.cell 3
    have q0' := kR.blk.frozen 0
    have q1' := kR.blk.frozen 1
    have q2' := kR.blk.frozen 2
    have q3' := kR.blk.frozen 3
    simp at r0 r1 r2 r3
    have hbs := kR.blk.set4 (.int .i64 0) (.slice none 0 0) (.int .i64 0) (.slice none 0 0)
    have x0 := hbs.cell 0
    have x1 := hbs.cell 1
    have x2 := hbs.cell 2
    have x3 := hbs.cell 3
    simp at x0 x1 x2 x3
    go_wp2_with fail
    refine bodyPost_ret (v := .tuple #[.agg #[.int .i64 0, .slice none 0 0, .int .i64 0, .slice none 0 0], .int .i64 1]) (by simp [results, Tryz.results97, go_sem, x0, x1, x2, x3]) rfl ?_
    exact ⟨rfl, below_st4 hT gR _ _ _ _⟩
  · (with_reducible refine (fright_any _ ka.a ka.b false (by simp [hr])).mono ?_)
    rintro e u1 ⟨rfl, hb9⟩
    have hT := hT.trans (hb9.mono hT.size)
    have ka := ka.below hb9
    have kb := kb.below hb9
    have kR := kR.below hb9
    clear ka kb
    have gR : w.heap.size ≤ w.heap.size + 1 + 1 := by omega
    have r0 := kR.blk.cell 0
    have r1 := kR.blk.cell 1
    have r2 := kR.blk.cell 2
    have r3 := kR.blk.cell 3
    have q0' := kR.blk.frozen 0
    have q1' := kR.blk.frozen 1
    have q2' := kR.blk.frozen 2
    have q3' := kR.blk.frozen 3
    simp at r0 r1 r2 r3
    have hbs := kR.blk.set4 (.int .i64 0) (.slice none 0 0) (.int .i64 0) (.slice none 0 0)
    have x0 := hbs.cell 0
    have x1 := hbs.cell 1
    have x2 := hbs.cell 2
    have x3 := hbs.cell 3
    simp at x0 x1 x2 x3
    go_wp2_with fail
    refine bodyPost_ret (v := .tuple #[.agg #[.int .i64 0, .slice none 0 0, .int .i64 0, .slice none 0 0], .int .i64 1]) (by simp [results, Tryz.results97, go_sem, x0, x1, x2, x3]) rfl ?_
    exact ⟨rfl, below_st4 hT gR _ _ _ _⟩

set_option maxRecDepth 100000 in
set_option maxHeartbeats 8000000 in
theorem fadd_bad {s1 s2 s3 s4 : Int} {l1 l2 l3 l4 : List Int} {A1 A2 A3 A4 : Option Addr} {n1 d1 n2 d2 n3 d3 n4 d4 : Nat} (w : World) (h1 : Ar w s1 l1 A1 n1 d1) (h2 : Ar w s2 l2 A2 n2 d2) (h3 : Ar w s3 l3 A3 n3 d3) (h4 : Ar w s4 l4 A4 n4 d4) (hb : ¬ (RF s1 l1 s2 l2 ∧ RF s3 l3 s4 l4)) :
    Calls Tryz.prog 39 #[.agg #[.int .i64 s1, .slice A1 n1 d1, .int .i64 s2, .slice A2 n2 d2], .agg #[.int .i64 s3, .slice A3 n3 d3, .int .i64 s4, .slice A4 n4 d4]] w fun e w' => e = .returned (.tuple #[.agg #[.int .i64 0, .slice none 0 0, .int .i64 0, .slice none 0 0], .int .i64 1]) ∧ Below w.heap.size w w' := by
  have HI := Lib.hid (fun (w' : World) (hw : Below w.heap.size w w') => combine_bad w' 11 (h1.later hw) (h2.later hw) (h3.later hw) (h4.later hw) hb)
  go_enter Tryz.func39, Tryz.ntmps39
  go_wp2_with fail
  obtain ⟨W0, hW, hbx, ka, kb, kR⟩ := afboxes2 h1 h2 h3 h4
  rw [← hW]
  clear hW h1 h2 h3 h4 hb
  have hT := hbx
  have za0 := ka.c0
  have za1 := ka.c1
  have za2 := ka.c2
  have za3 := ka.c3
  have zb0 := kb.c0
  have zb1 := kb.c1
  have zb2 := kb.c2
  have zb3 := kb.c3
  go_wp2_with fail
  clear za0 za1 za2 za3
  clear zb0 zb1 zb2 zb3
  (with_reducible refine (HI.out _ hT).mono ?_)
  rintro e u3 ⟨rfl, hb9⟩
  have hT := hT.trans (hb9.mono hT.size)
  have kR := kR.below hb9
  clear ka kb HI
  have gR : w.heap.size ≤ w.heap.size + 1 + 1 := by omega
  have r0 := kR.blk.cell 0
  have r1 := kR.blk.cell 1
  have r2 := kR.blk.cell 2
  have r3 := kR.blk.cell 3
  have q0' := kR.blk.frozen 0
  have q1' := kR.blk.frozen 1
  have q2' := kR.blk.frozen 2
  have q3' := kR.blk.frozen 3
  simp at r0 r1 r2 r3
  have hbs := kR.blk.set4 (.int .i64 0) (.slice none 0 0) (.int .i64 0) (.slice none 0 0)
  have x0 := hbs.cell 0
  have x1 := hbs.cell 1
  have x2 := hbs.cell 2
  have x3 := hbs.cell 3
  simp at x0 x1 x2 x3
  go_wp2_with fail
  refine bodyPost_ret (v := .tuple #[.agg #[.int .i64 0, .slice none 0 0, .int .i64 0, .slice none 0 0], .int .i64 1]) (by simp [results, Tryz.results39, go_sem, x0, x1, x2, x3]) rfl ?_
  exact ⟨rfl, below_st4 hT gR _ _ _ _⟩

set_option maxRecDepth 100000 in
set_option maxHeartbeats 8000000 in
theorem fsub_bad {s1 s2 s3 s4 : Int} {l1 l2 l3 l4 : List Int} {A1 A2 A3 A4 : Option Addr} {n1 d1 n2 d2 n3 d3 n4 d4 : Nat} (w : World) (h1 : Ar w s1 l1 A1 n1 d1) (h2 : Ar w s2 l2 A2 n2 d2) (h3 : Ar w s3 l3 A3 n3 d3) (h4 : Ar w s4 l4 A4 n4 d4) (hb : ¬ (RF s1 l1 s2 l2 ∧ RF s3 l3 s4 l4)) :
    Calls Tryz.prog 41 #[.agg #[.int .i64 s1, .slice A1 n1 d1, .int .i64 s2, .slice A2 n2 d2], .agg #[.int .i64 s3, .slice A3 n3 d3, .int .i64 s4, .slice A4 n4 d4]] w fun e w' => e = .returned (.tuple #[.agg #[.int .i64 0, .slice none 0 0, .int .i64 0, .slice none 0 0], .int .i64 1]) ∧ Below w.heap.size w w' := by
  have HI := Lib.hid (fun (w' : World) (hw : Below w.heap.size w w') => combine_bad w' 13 (h1.later hw) (h2.later hw) (h3.later hw) (h4.later hw) hb)
  go_enter Tryz.func41, Tryz.ntmps41
  go_wp2_with fail
  obtain ⟨W0, hW, hbx, ka, kb, kR⟩ := afboxes2 h1 h2 h3 h4
  rw [← hW]
  clear hW h1 h2 h3 h4 hb
  have hT := hbx
  have za0 := ka.c0
  have za1 := ka.c1
  have za2 := ka.c2
  have za3 := ka.c3
  have zb0 := kb.c0
  have zb1 := kb.c1
  have zb2 := kb.c2
  have zb3 := kb.c3
  go_wp2_with fail
  clear za0 za1 za2 za3
  clear zb0 zb1 zb2 zb3
  (with_reducible refine (HI.out _ hT).mono ?_)
  rintro e u3 ⟨rfl, hb9⟩
  have hT := hT.trans (hb9.mono hT.size)
  have kR := kR.below hb9
  clear ka kb HI
  have gR : w.heap.size ≤ w.heap.size + 1 + 1 := by omega
  have r0 := kR.blk.cell 0
  have r1 := kR.blk.cell 1
  have r2 := kR.blk.cell 2
  have r3 := kR.blk.cell 3
  have q0' := kR.blk.frozen 0
  have q1' := kR.blk.frozen 1
  have q2' := kR.blk.frozen 2
  have q3' := kR.blk.frozen 3
  simp at r0 r1 r2 r3
  have hbs := kR.blk.set4 (.int .i64 0) (.slice none 0 0) (.int .i64 0) (.slice none 0 0)
  have x0 := hbs.cell 0
  have x1 := hbs.cell 1
  have x2 := hbs.cell 2
  have x3 := hbs.cell 3
  simp at x0 x1 x2 x3
  go_wp2_with fail
  refine bodyPost_ret (v := .tuple #[.agg #[.int .i64 0, .slice none 0 0, .int .i64 0, .slice none 0 0], .int .i64 1]) (by simp [results, Tryz.results41, go_sem, x0, x1, x2, x3]) rfl ?_
  exact ⟨rfl, below_st4 hT gR _ _ _ _⟩

set_option maxRecDepth 100000 in
set_option maxHeartbeats 8000000 in
theorem fmul_bad {s1 s2 s3 s4 : Int} {l1 l2 l3 l4 : List Int} {A1 A2 A3 A4 : Option Addr} {n1 d1 n2 d2 n3 d3 n4 d4 : Nat} (w : World) (h1 : Ar w s1 l1 A1 n1 d1) (h2 : Ar w s2 l2 A2 n2 d2) (h3 : Ar w s3 l3 A3 n3 d3) (h4 : Ar w s4 l4 A4 n4 d4) (hb : ¬ (RF s1 l1 s2 l2 ∧ RF s3 l3 s4 l4)) :
    Calls Tryz.prog 44 #[.agg #[.int .i64 s1, .slice A1 n1 d1, .int .i64 s2, .slice A2 n2 d2], .agg #[.int .i64 s3, .slice A3 n3 d3, .int .i64 s4, .slice A4 n4 d4]] w fun e w' => e = .returned (.tuple #[.agg #[.int .i64 0, .slice none 0 0, .int .i64 0, .slice none 0 0], .int .i64 1]) ∧ Below w.heap.size w w' := by
  have HB := Lib.hid hb; clear hb
  go_enter Tryz.func44, Tryz.ntmps44
  go_wp2_with fail
  obtain ⟨W0, hW, hbx, ka, kb, kR⟩ := afboxes2 h1 h2 h3 h4
  rw [← hW]
  clear hW h1 h2 h3 h4
  have hT := hbx
  have za0 := ka.c0
  have za1 := ka.c1
  have za2 := ka.c2
  have za3 := ka.c3
  go_wp2_with fail
  clear za0 za1 za2 za3
  by_cases hr : RF s1 l1 s2 l2
  · (with_reducible refine (fright_any _ ka.a ka.b true (by simp [hr])).mono ?_)
    rintro e u1 ⟨rfl, hb9⟩
    have hT := hT.trans (hb9.mono hT.size)
    have ka := ka.below hb9
    have kb := kb.below hb9
    have kR := kR.below hb9
    have zb0 := kb.c0
    have zb1 := kb.c1
    have zb2 := kb.c2
    have zb3 := kb.c3
    go_wp2_with fail
    clear zb0 zb1 zb2 zb3
    (with_reducible refine (fright_any _ kb.a kb.b false (by simp only [Bool.false_eq_true, false_iff]; exact fun h => absurd ⟨hr, h⟩ HB.out)).mono ?_)
    rintro e u2 ⟨rfl, hb9⟩
    have hT := hT.trans (hb9.mono hT.size)
    have ka := ka.below hb9
    have kb := kb.below hb9
    have kR := kR.below hb9
    clear ka kb
    have gR : w.heap.size ≤ w.heap.size + 1 + 1 := by omega
    have r0 := kR.blk.cell 0
    have r1 := kR.blk.cell 1
    have r2 := kR.blk.cell 2
    have r3 := kR.blk.cell 3
    have q0' := kR.blk.frozen 0
    have q1' := kR.blk.frozen 1
    have q2' := kR.blk.frozen 2
    have q3' := kR.blk.frozen 3
    simp at r0 r1 r2 r3
    have hbs := kR.blk.set4 (.int .i64 0) (.slice none 0 0) (.int .i64 0) (.slice none 0 0)
    have x0 := hbs.cell 0
    have x1 := hbs.cell 1
    have x2 := hbs.cell 2
    have x3 := hbs.cell 3
    simp at x0 x1 x2 x3
    go_wp2_with fail
    refine bodyPost_ret (v := .tuple #[.agg #[.int .i64 0, .slice none 0 0, .int .i64 0, .slice none 0 0], .int .i64 1]) (by simp [results, Tryz.results44, go_sem, x0, x1, x2, x3]) rfl ?_
    exact ⟨rfl, below_st4 hT gR _ _ _ _⟩
  · (with_reducible refine (fright_any _ ka.a ka.b false (by simp [hr])).mono ?_)
    rintro e u1 ⟨rfl, hb9⟩
    have hT := hT.trans (hb9.mono hT.size)
    have ka := ka.below hb9
    have kb := kb.below hb9
    have kR := kR.below hb9
    clear ka kb
    have gR : w.heap.size ≤ w.heap.size + 1 + 1 := by omega
    have r0 := kR.blk.cell 0
    have r1 := kR.blk.cell 1
    have r2 := kR.blk.cell 2
    have r3 := kR.blk.cell 3
    have q0' := kR.blk.frozen 0
    have q1' := kR.blk.frozen 1
    have q2' := kR.blk.frozen 2
    have q3' := kR.blk.frozen 3
    simp at r0 r1 r2 r3
    have hbs := kR.blk.set4 (.int .i64 0) (.slice none 0 0) (.int .i64 0) (.slice none 0 0)
    have x0 := hbs.cell 0
    have x1 := hbs.cell 1
    have x2 := hbs.cell 2
    have x3 := hbs.cell 3
    simp at x0 x1 x2 x3
    go_wp2_with fail
    refine bodyPost_ret (v := .tuple #[.agg #[.int .i64 0, .slice none 0 0, .int .i64 0, .slice none 0 0], .int .i64 1]) (by simp [results, Tryz.results44, go_sem, x0, x1, x2, x3]) rfl ?_
    exact ⟨rfl, below_st4 hT gR _ _ _ _⟩

set_option maxRecDepth 100000 in
set_option maxHeartbeats 8000000 in
theorem fdiv_bad {s1 s2 s3 s4 : Int} {l1 l2 l3 l4 : List Int} {A1 A2 A3 A4 : Option Addr} {n1 d1 n2 d2 n3 d3 n4 d4 : Nat} (w : World) (h1 : Ar w s1 l1 A1 n1 d1) (h2 : Ar w s2 l2 A2 n2 d2) (h3 : Ar w s3 l3 A3 n3 d3) (h4 : Ar w s4 l4 A4 n4 d4) (hb : ¬ (RF s1 l1 s2 l2 ∧ RF s3 l3 s4 l4)) :
    Calls Tryz.prog 46 #[.agg #[.int .i64 s1, .slice A1 n1 d1, .int .i64 s2, .slice A2 n2 d2], .agg #[.int .i64 s3, .slice A3 n3 d3, .int .i64 s4, .slice A4 n4 d4]] w fun e w' => e = .returned (.tuple #[.agg #[.int .i64 0, .slice none 0 0, .int .i64 0, .slice none 0 0], .int .i64 1]) ∧ Below w.heap.size w w' := by
  have HB := Lib.hid hb; clear hb
  go_enter Tryz.func46, Tryz.ntmps46
  go_wp2_with fail
  obtain ⟨W0, hW, hbx, ka, kb, kR⟩ := afboxes2 h1 h2 h3 h4
  rw [← hW]
  clear hW h1 h2 h3 h4
  have hT := hbx
  have za0 := ka.c0
  have za1 := ka.c1
  have za2 := ka.c2
  have za3 := ka.c3
  go_wp2_with fail
  clear za0 za1 za2 za3
  by_cases hr : RF s1 l1 s2 l2
  · (with_reducible refine (fright_any _ ka.a ka.b true (by simp [hr])).mono ?_)
    rintro e u1 ⟨rfl, hb9⟩
    have hT := hT.trans (hb9.mono hT.size)
    have ka := ka.below hb9
    have kb := kb.below hb9
    have kR := kR.below hb9
    have zb0 := kb.c0
    have zb1 := kb.c1
    have zb2 := kb.c2
    have zb3 := kb.c3
    go_wp2_with fail
    clear zb0 zb1 zb2 zb3
    (with_reducible refine (fright_any _ kb.a kb.b false (by simp only [Bool.false_eq_true, false_iff]; exact fun h => absurd ⟨hr, h⟩ HB.out)).mono ?_)
    rintro e u2 ⟨rfl, hb9⟩
    have hT := hT.trans (hb9.mono hT.size)
    have ka := ka.below hb9
    have kb := kb.below hb9
    have kR := kR.below hb9
    clear ka kb
    have gR : w.heap.size ≤ w.heap.size + 1 + 1 := by omega
    have r0 := kR.blk.cell 0
    have r1 := kR.blk.cell 1
    have r2 := kR.blk.cell 2
    have r3 := kR.blk.cell 3
    have q0' := kR.blk.frozen 0
    have q1' := kR.blk.frozen 1
    have q2' := kR.blk.frozen 2
    have q3' := kR.blk.frozen 3
    simp at r0 r1 r2 r3
    have hbs := kR.blk.set4 (.int .i64 0) (.slice none 0 0) (.int .i64 0) (.slice none 0 0)
    have x0 := hbs.cell 0
    have x1 := hbs.cell 1
    have x2 := hbs.cell 2
    have x3 := hbs.cell 3
    simp at x0 x1 x2 x3
    go_wp2_with fail
    refine bodyPost_ret (v := .tuple #[.agg #[.int .i64 0, .slice none 0 0, .int .i64 0, .slice none 0 0], .int .i64 1]) (by simp [results, Tryz.results46, go_sem, x0, x1, x2, x3]) rfl ?_
    exact ⟨rfl, below_st4 hT gR _ _ _ _⟩
  · (with_reducible refine (fright_any _ ka.a ka.b false (by simp [hr])).mono ?_)
    rintro e u1 ⟨rfl, hb9⟩
    have hT := hT.trans (hb9.mono hT.size)
    have ka := ka.below hb9
    have kb := kb.below hb9
    have kR := kR.below hb9
    clear ka kb
    have gR : w.heap.size ≤ w.heap.size + 1 + 1 := by omega
    have r0 := kR.blk.cell 0
    have r1 := kR.blk.cell 1
    have r2 := kR.blk.cell 2
    have r3 := kR.blk.cell 3
    have q0' := kR.blk.frozen 0
    have q1' := kR.blk.frozen 1
    have q2' := kR.blk.frozen 2
    have q3' := kR.blk.frozen 3
    simp at r0 r1 r2 r3
    have hbs := kR.blk.set4 (.int .i64 0) (.slice none 0 0) (.int .i64 0) (.slice none 0 0)
    have x0 := hbs.cell 0
    have x1 := hbs.cell 1
    have x2 := hbs.cell 2
    have x3 := hbs.cell 3
    simp at x0 x1 x2 x3
    go_wp2_with fail
    refine bodyPost_ret (v := .tuple #[.agg #[.int .i64 0, .slice none 0 0, .int .i64 0, .slice none 0 0], .int .i64 1]) (by simp [results, Tryz.results46, go_sem, x0, x1, x2, x3]) rfl ?_
    exact ⟨rfl, below_st4 hT gR _ _ _ _⟩

set_option maxRecDepth 100000 in
set_option maxHeartbeats 8000000 in
theorem fcompare_bad {s1 s2 s3 s4 : Int} {l1 l2 l3 l4 : List Int} {A1 A2 A3 A4 : Option Addr} {n1 d1 n2 d2 n3 d3 n4 d4 : Nat} (w : World) (h1 : Ar w s1 l1 A1 n1 d1) (h2 : Ar w s2 l2 A2 n2 d2) (h3 : Ar w s3 l3 A3 n3 d3) (h4 : Ar w s4 l4 A4 n4 d4) (hb : ¬ (RF s1 l1 s2 l2 ∧ RF s3 l3 s4 l4)) :
    Calls Tryz.prog 56 #[.agg #[.int .i64 s1, .slice A1 n1 d1, .int .i64 s2, .slice A2 n2 d2], .agg #[.int .i64 s3, .slice A3 n3 d3, .int .i64 s4, .slice A4 n4 d4]] w fun e w' => e = .returned (.int .i64 0) ∧ Below w.heap.size w w' := by
  have HB := Lib.hid hb; clear hb
  go_enter Tryz.func56, Tryz.ntmps56
  go_wp2_with fail
  obtain ⟨W0, hW, hbx, ka, kb⟩ := afboxes1 h1 h2 h3 h4
  rw [← hW]
  clear hW h1 h2 h3 h4
  have hT := hbx
  have za0 := ka.c0
  have za1 := ka.c1
  have za2 := ka.c2
  have za3 := ka.c3
  go_wp2_with fail
  clear za0 za1 za2 za3
  by_cases hr : RF s1 l1 s2 l2
  · (with_reducible refine (fright_any _ ka.a ka.b true (by simp [hr])).mono ?_)
    rintro e u1 ⟨rfl, hb9⟩
    have hT := hT.trans (hb9.mono hT.size)
    have ka := ka.below hb9
    have kb := kb.below hb9
    have zb0 := kb.c0
    have zb1 := kb.c1
    have zb2 := kb.c2
    have zb3 := kb.c3
    go_wp2_with fail
    clear zb0 zb1 zb2 zb3
    (with_reducible refine (fright_any _ kb.a kb.b false (by simp only [Bool.false_eq_true, false_iff]; exact fun h => absurd ⟨hr, h⟩ HB.out)).mono ?_)
    rintro e u2 ⟨rfl, hb9⟩
    have hT := hT.trans (hb9.mono hT.size)
    have ka := ka.below hb9
    have kb := kb.below hb9
    clear ka kb
    go_wp2_with fail
    go_ret
    exact ⟨rfl, hT⟩
  · (with_reducible refine (fright_any _ ka.a ka.b false (by simp [hr])).mono ?_)
    rintro e u1 ⟨rfl, hb9⟩
    have hT := hT.trans (hb9.mono hT.size)
    have ka := ka.below hb9
    have kb := kb.below hb9
    clear ka kb
    go_wp2_with fail
    go_ret
    exact ⟨rfl, hT⟩

end Go.Proofs.YtbhdkgieahnojaaGreatDoor

namespace Go.Proofs.YtbhdkgieahnojaaGreatDoor
open Go.RowKit

set_option maxRecDepth 100000 in
set_option maxHeartbeats 8000000 in
theorem fof_any (p q : Int) (w : World) (hp : isI p) (hq : isI q) : Calls Tryz.prog 48 #[.int .i64 p, .int .i64 q] w (NewP p q w) := by
  have H1 := Lib.hid hp; clear hp
  have H2 := Lib.hid hq; clear hq
  unfold NewP
  obtain ⟨E, hE⟩ : ∃ E, newE q = E := ⟨_, rfl⟩
  obtain ⟨P, hP⟩ : ∃ E, newN p q = E := ⟨_, rfl⟩
  obtain ⟨Q, hQ⟩ : ∃ E, newD p q = E := ⟨_, rfl⟩
  rw [hE, hP, hQ]
  have HE := Lib.hid hE; clear hE
  have HP := Lib.hid hP; clear hP
  have HQ := Lib.hid hQ; clear hQ
  go_enter Tryz.func48, Tryz.ntmps48
  go_wp2_with fail
  obtain ⟨W0, hW⟩ : ∃ W, W = w.alloc (.cells #[.int .i64 0, .slice none 0 0, .int .i64 0, .slice none 0 0] 43) := ⟨_, rfl⟩
  have hT : Below w.heap.size w W0 := by rw [hW]; exact (Below.refl _ _).alloc (Nat.le_refl _) _
  have kR : Bz W0 w.heap.size (.int .i64 0) (.slice none 0 0) (.int .i64 0) (.slice none 0 0) := ⟨by rw [hW]; exact Blk.new _ _ _⟩
  rw [← hW]
  clear hW
  (with_reducible refine (of_any _ _ H1.out.lo H1.out.hi).mono ?_)
  rintro e u1 ⟨r1, rfl, hr1, hb1⟩
  have hT := hT.trans (hb1.mono hT.size)
  have kR := kR.below hb1
  obtain ⟨s1, A1, n1, c1, rfl⟩ := hr1.form
  go_wp2_with fail
  (with_reducible refine (of_any _ _ H2.out.lo H2.out.hi).mono ?_)
  rintro e u2 ⟨r2, rfl, hr2, hb2⟩
  have hT := hT.trans (hb2.mono hT.size)
  have kR := kR.below hb2
  have hv1 := hr1.bv.later hb2
  obtain ⟨s2, A2, n2, c2, rfl⟩ := hr2.form
  go_wp2_with fail
  have hlt := kR.blk.lt
  (with_reducible refine (new_any _ _ _ _ _ _ _ _ _ _ _ hv1 hr2.bv H1.out.lt H2.out.lt).mono ?_)
  rintro e u3 ⟨rr, rfl, hrr, hb9⟩
  have hT := hT.trans (hb9.mono hT.size)
  have kR := kR.below hb9
  clear hr1 hr2 hv1
  rw [HP.out, HQ.out] at hrr
  rw [HE.out]
  obtain ⟨t1, C1, m1, e1, t2, C2, m2, e2, rfl, g1, g2⟩ := hrr
  have gR : w.heap.size ≤ w.heap.size := Nat.le_refl _
  have r0 := kR.blk.cell 0
  have r1 := kR.blk.cell 1
  have r2 := kR.blk.cell 2
  have r3 := kR.blk.cell 3
  have q0' := kR.blk.frozen 0
  have q1' := kR.blk.frozen 1
  have q2' := kR.blk.frozen 2
  have q3' := kR.blk.frozen 3
  simp at r0 r1 r2 r3
  have hbs := kR.blk.set4 (.int .i64 t1) (.slice C1 m1 e1) (.int .i64 t2) (.slice C2 m2 e2)
  have x0 := hbs.cell 0
  have x1 := hbs.cell 1
  have x2 := hbs.cell 2
  have x3 := hbs.cell 3
  simp at x0 x1 x2 x3
  go_wp2_with fail
  refine bodyPost_ret (v := .tuple #[.agg #[.int .i64 t1, .slice C1 m1 e1, .int .i64 t2, .slice C2 m2 e2], .int .i64 E]) (by simp [results, Tryz.results48, go_sem, x0, x1, x2, x3]) rfl ?_
  exact ⟨_, rfl, FO.mk2 ((g1.far4 hlt _ _ _ _).mono (by omega)) ((g2.far4 hlt _ _ _ _).mono (by omega)), below_st4 hT gR _ _ _ _⟩

set_option maxRecDepth 100000 in
set_option maxHeartbeats 8000000 in
theorem lof_any (p q : Int) (w : World) (hp : isI p) (hq : isI q) : Calls Tryz.prog 64 #[.int .i64 p, .int .i64 q] w fun e w' => ∃ r, e = .returned r ∧ FO w' w.heap.size r (newN p q) (newD p q) ∧ Below w.heap.size w w' := by
  have H1 := Lib.hid hp; clear hp
  have H2 := Lib.hid hq; clear hq
  obtain ⟨E, hE⟩ : ∃ E, newE q = E := ⟨_, rfl⟩
  obtain ⟨P, hP⟩ : ∃ E, newN p q = E := ⟨_, rfl⟩
  obtain ⟨Q, hQ⟩ : ∃ E, newD p q = E := ⟨_, rfl⟩
  rw [hP, hQ]
  have HE := Lib.hid hE; clear hE
  have HP := Lib.hid hP; clear hP
  have HQ := Lib.hid hQ; clear hQ
  go_enter Tryz.func64, Tryz.ntmps64
  go_wp2_with fail
  obtain ⟨W0, hW⟩ : ∃ W, W = w.alloc (.cells #[.int .i64 0, .slice none 0 0, .int .i64 0, .slice none 0 0] 43) := ⟨_, rfl⟩
  have hT : Below w.heap.size w W0 := by rw [hW]; exact (Below.refl _ _).alloc (Nat.le_refl _) _
  have kR : Bz W0 w.heap.size (.int .i64 0) (.slice none 0 0) (.int .i64 0) (.slice none 0 0) := ⟨by rw [hW]; exact Blk.new _ _ _⟩
  rw [← hW]
  clear hW
  have hlt := kR.blk.lt
  (with_reducible refine (fof_any _ _ _ H1.out H2.out).mono ?_)
  rintro e u3 ⟨rr, rfl, hrr, hb9⟩
  have hT := hT.trans (hb9.mono hT.size)
  have kR := kR.below hb9
  rw [HP.out, HQ.out] at hrr
  rw [HE.out]
  obtain ⟨t1, C1, m1, e1, t2, C2, m2, e2, rfl, g1, g2⟩ := hrr
  have hbn := (Below.refl u3.heap.size u3).alloc (Nat.le_refl _) (.cells #[.int .i64 t1, .slice C1 m1 e1, .int .i64 t2, .slice C2 m2 e2] 43)
  have g1 := g1.below hbn
  have g2 := g2.below hbn
  have kR := kR.below hbn
  have hT := hT.trans (hbn.mono hT.size)
  have gR : w.heap.size ≤ w.heap.size := Nat.le_refl _
  have r0 := kR.blk.cell 0
  have r1 := kR.blk.cell 1
  have r2 := kR.blk.cell 2
  have r3 := kR.blk.cell 3
  have q0' := kR.blk.frozen 0
  have q1' := kR.blk.frozen 1
  have q2' := kR.blk.frozen 2
  have q3' := kR.blk.frozen 3
  simp at r0 r1 r2 r3
  have hbs := kR.blk.set4 (.int .i64 t1) (.slice C1 m1 e1) (.int .i64 t2) (.slice C2 m2 e2)
  have x0 := hbs.cell 0
  have x1 := hbs.cell 1
  have x2 := hbs.cell 2
  have x3 := hbs.cell 3
  simp at x0 x1 x2 x3
  go_wp2_with fail
  refine bodyPost_ret (v := .agg #[.int .i64 t1, .slice C1 m1 e1, .int .i64 t2, .slice C2 m2 e2]) (by simp [results, Tryz.results64, go_sem, x0, x1, x2, x3]) rfl ?_
  exact ⟨_, rfl, FO.mk2 ((g1.far4 hlt _ _ _ _).mono (by omega)) ((g2.far4 hlt _ _ _ _).mono (by omega)), below_st4 hT gR _ _ _ _⟩

end Go.Proofs.YtbhdkgieahnojaaGreatDoor

namespace Go.Proofs.YtbhdkgieahnojaaGreatDoor
open Go.RowKit

set_option maxRecDepth 100000 in
set_option maxHeartbeats 4000000 in
theorem lright_yes (s1 s2 : Int) (A1 A2 : Option Addr) (n1 d1 n2 d2 : Nat) (p q : Int) (w : World) (ha : FV w w.heap.size s1 A1 n1 d1 s2 A2 n2 d2 p q) (h1 : ab p < pw 60) (h2 : ab q < pw 60) (f1 : FR p q) :
    Calls Tryz.prog 63 #[.agg #[.int .i64 s1, .slice A1 n1 d1, .int .i64 s2, .slice A2 n2 d2], .int .i64 0] w fun e w' => e = .returned (.tuple #[.agg #[.int .i64 s1, .slice A1 n1 d1, .int .i64 s2, .slice A2 n2 d2], .bool true]) ∧ Below w.heap.size w w' := by
  have hrt := fun (w' : World) (hb : Below w.heap.size w w') => fright_pos w' (ha.later hb) h1 h2 (FR.pos f1) true (decide_eq_true (FR.one f1))
  have HRT := Lib.hid hrt; clear hrt h1 h2 f1
  go_enter Tryz.func63, Tryz.ntmps63
  go_wp2_with fail
  obtain ⟨Wf, hW, hbx, ka⟩ := fbox1 ha
  have hsz : Wf.heap.size = w.heap.size + 1 := by rw [hW]; simp
  rw [← hW]
  clear hW ha
  have hT := hbx.alloc hbx.size (.cells #[.int .i64 0, .slice none 0 0, .int .i64 0, .slice none 0 0] 43)
  have ka := ka.below ((Below.refl _ Wf).alloc (Nat.le_refl _) (.cells #[.int .i64 0, .slice none 0 0, .int .i64 0, .slice none 0 0] 43))
  have kR : Blk (Wf.alloc (.cells #[.int .i64 0, .slice none 0 0, .int .i64 0, .slice none 0 0] 43)) Wf.heap.size 43 #[.int .i64 0, .slice none 0 0, .int .i64 0, .slice none 0 0] := Blk.new _ _ _
  rw [hsz] at kR
  obtain ⟨W0, hW⟩ : ∃ W, W = Wf.alloc (.cells #[.int .i64 0, .slice none 0 0, .int .i64 0, .slice none 0 0] 43) := ⟨_, rfl⟩
  rw [← hW] at hT ka kR ⊢
  clear hW hbx hsz
  obtain ⟨B, hB⟩ : ∃ B, w.heap.size + 1 = B := ⟨_, rfl⟩
  have hwB : w.heap.size < B := by omega
  rw [hB] at kR ⊢
  clear hB
  have HWB := Lib.hid hwB; clear hwB
  have e0 : ∀ W' : World, Below B W0 W' → W'.cell? ⟨w.heap.size, 0, none⟩ = some (.int .i64 s1) ∧ W'.cell? ⟨w.heap.size, 1, none⟩ = some (.slice A1 n1 d1) ∧ W'.cell? ⟨w.heap.size, 2, none⟩ = some (.int .i64 s2) ∧ W'.cell? ⟨w.heap.size, 3, none⟩ = some (.slice A2 n2 d2) ∧ Below B W0 W' := fun W' hW =>
    ⟨(ka.blk.below hW HWB.out).cell 0, (ka.blk.below hW HWB.out).cell 1, (ka.blk.below hW HWB.out).cell 2, (ka.blk.below hW HWB.out).cell 3, hW⟩
  have E0 := Lib.hid e0; clear e0
  have hB00 : Below B W0 W0.drew := (Below.refl _ _).drew
  have hrt := fun (w' : World) (hb : Below B W0 w') => HRT.out w' (hT.trans (hb.mono (Nat.le_of_lt HWB.out)))
  have HR2 := Lib.hid hrt; clear hrt HRT
  have hge : B ≤ B := Nat.le_refl _
  have r0 := kR.cell 0
  have r1 := kR.cell 1
  have r2 := kR.cell 2
  have r3 := kR.cell 3
  have f0 := kR.frozen 0
  have f1 := kR.frozen 1
  have f2 := kR.frozen 2
  have f3 := kR.frozen 3
  simp at r0 r1 r2 r3
  have hRlt := kR.lt
  have HRL := Lib.hid hRlt; clear hRlt
  have HKR := Lib.hid kR; clear kR
  clear ka
  go_region_held3 (fun W' => W'.cell? ⟨w.heap.size, 0, none⟩ = some (.int .i64 s1) ∧ W'.cell? ⟨w.heap.size, 1, none⟩ = some (.slice A1 n1 d1) ∧ W'.cell? ⟨w.heap.size, 2, none⟩ = some (.int .i64 s2) ∧ W'.cell? ⟨w.heap.size, 3, none⟩ = some (.slice A2 n2 d2) ∧ Below B W0 W')
    (first | exact E0.out _ (by assumption) | exact E0.out _ ⟨rfl, rfl, rfl, Nat.le_refl _, fun _ _ => rfl⟩ | exact E0.out _ (below_st4 hB5 hge _ _ _ _) | exact E0.out _ (below_st4 hB00 hge _ _ _ _))
    (first
      | (go_at_call 54; refine (HR2.out _ hB00).mono ?_; rintro e x5 ⟨rfl, hb5⟩; have hb6 : Below W0.heap.size W0 x5 := ⟨hb5.os, hb5.tape, hb5.output, hb5.size, hb5.block⟩; have hB5 : Below B W0 x5 := hb6.mono (Nat.le_of_lt HRL.out); have kR5 := HKR.out.below hb6 HRL.out; have z0 := kR5.cell 0; have z1 := kR5.cell 1; have z2 := kR5.cell 2; have z3 := kR5.cell 3; have y0 := kR5.frozen 0; have y1 := kR5.frozen 1; have y2 := kR5.frozen 2; have y3 := kR5.frozen 3))
  have hbs := kR5.set4 (.int .i64 s1) (.slice A1 n1 d1) (.int .i64 s2) (.slice A2 n2 d2)
  have x0 := hbs.cell 0
  have x1 := hbs.cell 1
  have x2 := hbs.cell 2
  have x3 := hbs.cell 3
  simp at x0 x1 x2 x3
  go_wp2_with fail
  refine bodyPost_ret (v := .tuple #[.agg #[.int .i64 s1, .slice A1 n1 d1, .int .i64 s2, .slice A2 n2 d2], .bool true]) (by simp [results, Tryz.results63, go_sem, x0, x1, x2, x3]) rfl ?_
  exact ⟨rfl, below_st4 (hT.trans (hB5.mono (Nat.le_of_lt HWB.out))) (Nat.le_of_lt HWB.out) _ _ _ _⟩

end Go.Proofs.YtbhdkgieahnojaaGreatDoor
