/- Opening of the laws' arguments: a fraction as it came in. Boxes of fractions as they came in; Add, Sub, Mul, Div and Compare where one is not right. Printed by a program (fbad.py). Walks: the reference's operations on fractions where one is not right. Printed by a program (rfops.py). -/
import Derived.Test.YtkjpfnbdlbnbkaaGreatDoorXbb
import Derived.Test.YtkjpfnbdlbnbkaaGreatDoorXaj
import Derived.Test.YtkjpfnbdlbnbkaaGreatDoorXbe
import Derived.Test.YtkjpfnbdlbnbkaaGreatDoorXbc

namespace Go.Proofs.YtkjpfnbdlbnbkaaGreatDoor
open Go.ChangeShapes Go.WideShapes Go.ChangeAt Go.RowKit Go.Joins Go.Deep

theorem Tryz.cells43 : Tryz.prog.cellsOf 43 = 4 := by kernel_rfl
theorem Tryz.cells22 : Tryz.prog.cellsOf 22 = 1 := by kernel_rfl
section
variable {H : Type} {enc : TypeId × Value → H} {w : World}
set_option maxRecDepth 100000 in
theorem open_part {n : Nat} {v0 v1 : Value} {y0 y1 : DataW H × List MemPlace} (h0 : DataW.trod enc Tryz.prog w 0 (fun _ => true) true n 3 [v0] = some y0) (h1 : DataW.trod enc Tryz.prog w 0 (fun _ => true) true n 22 [v1] = some y1) :
    ∃ (s : Int) (l : List Int) (A : Option Addr) (n c : Nat), v0 = .int .i64 s ∧ v1 = .slice A n c ∧ Ar w s l A n c := by
  obtain ⟨K, e0, _, _⟩ := DataW.trod_int Tryz.underlying3 h0
  simp only [List.cons.injEq, and_true] at e0
  subst e0
  rcases open_ints Tryz.underlying22 Tryz.underlying3 Tryz.cells3 h1 with ⟨hcs, _⟩ | ⟨a, len, cap, zs, hcs, _, hl, hm, hz, _, hcell, hwf⟩
  · simp only [List.cons.injEq, and_true] at hcs
    subst hcs
    exact ⟨K, [], none, 0, 0, rfl, rfl, rfl, fun k hk => (by cases hk), Nat.le_refl _, by omega⟩
  · simp only [List.cons.injEq, and_true] at hcs
    subst hcs
    simp only [if_true] at hz
    have hlen : (zs.take len).length = len := by rw [List.length_take]; omega
    refine ⟨K, zs.take len, some a, len, cap, rfl, rfl, hlen, fun k hk => ?_, hl, by unfold maxLen at hm; omega⟩
    rw [hlen] at hk
    obtain ⟨b, off, rfl, hc⟩ := ints_at hcell (by omega)
    have h1 := hc k (by omega)
    refine ⟨b, off, rfl, World.block_lt_of_cell? w _ h1, ?_⟩
    rw [h1, List.getD_eq_getElem?_getD, List.getD_eq_getElem?_getD, List.getElem?_take_of_lt hk]

set_option maxRecDepth 100000 in
theorem open_Frac {r : Reach} {b0 : Nat} {v : Value} {d : DataW H} {p : List MemPlace} (hv : Value.okWide Tryz.prog w r b0 43 v) (h : DataW.Trod enc Tryz.prog w 0 (fun _ => true) true 43 v d p) :
    ∃ (s1 s2 : Int) (l1 l2 : List Int) (A1 A2 : Option Addr) (n1 c1 n2 c2 : Nat), v = .agg #[.int .i64 s1, .slice A1 n1 c1, .int .i64 s2, .slice A2 n2 c2] ∧ Ar w s1 l1 A1 n1 c1 ∧ Ar w s2 l2 A2 n2 c2 := by
  obtain ⟨cs, rfl, hsz⟩ := okWide_struct Tryz.underlying43 hv
  obtain ⟨l⟩ := cs
  match l, hsz.trans Tryz.cells43 with
  | [e0, e1, e2, e3], _ =>
    obtain ⟨fuel, hf⟩ := h
    obtain ⟨y0, y1, n, _, _, g0, g1⟩ := trod_struct2 Tryz.underlying43 hf
    have g0' : DataW.trod enc Tryz.prog w 0 (fun _ => true) true n 24 [e0, e1] = some y0 := by simpa [Value.cells, Tryz.cells24] using g0
    have g1' : DataW.trod enc Tryz.prog w 0 (fun _ => true) true n 24 [e2, e3] = some y1 := by simpa [Value.cells, Tryz.cells24] using g1
    obtain ⟨z0, z1, m, _, _, k0, k1⟩ := trod_struct2 Tryz.underlying24 g0'
    obtain ⟨z2, z3, m', _, _, k2, k3⟩ := trod_struct2 Tryz.underlying24 g1'
    obtain ⟨s1, l1, A1, n1, c1, rfl, rfl, a1⟩ := open_part (by simpa [Tryz.cells3] using k0) (by simpa [Tryz.cells22] using k1)
    obtain ⟨s2, l2, A2, n2, c2, rfl, rfl, a2⟩ := open_part (by simpa [Tryz.cells3] using k2) (by simpa [Tryz.cells22] using k3)
    exact ⟨s1, s2, l1, l2, A1, A2, n1, c1, n2, c2, rfl, a1, a2⟩
end

end Go.Proofs.YtkjpfnbdlbnbkaaGreatDoor

namespace Go.Proofs.YtkjpfnbdlbnbkaaGreatDoor
open Go.RowKit

/-- A box that holds a fraction as it came in. -/
structure Af (W : World) (g : Nat) (s1 : Int) (l1 : List Int) (A1 : Option Addr) (n1 c1 : Nat) (s2 : Int) (l2 : List Int) (A2 : Option Addr) (n2 c2 : Nat) : Prop where
  blk : Blk W g 43 #[.int .i64 s1, .slice A1 n1 c1, .int .i64 s2, .slice A2 n2 c2]
  a : Ar W s1 l1 A1 n1 c1
  b : Ar W s2 l2 A2 n2 c2
section
variable {W W' w : World} {g : Nat} {s1 s2 s3 s4 : Int} {l1 l2 l3 l4 : List Int} {A1 A2 A3 A4 : Option Addr} {n1 d1 n2 d2 n3 d3 n4 d4 : Nat}
theorem Af.below (h : Af W g s1 l1 A1 n1 d1 s2 l2 A2 n2 d2) (hb : Below W.heap.size W W') : Af W' g s1 l1 A1 n1 d1 s2 l2 A2 n2 d2 := ⟨h.blk.below hb h.blk.lt, h.a.later hb, h.b.later hb⟩
theorem Af.c0 (h : Af W g s1 l1 A1 n1 d1 s2 l2 A2 n2 d2) : W.cell? ⟨g, 0, none⟩ = some (.int .i64 s1) := h.blk.cell 0
theorem Af.c1 (h : Af W g s1 l1 A1 n1 d1 s2 l2 A2 n2 d2) : W.cell? ⟨g, 1, none⟩ = some (.slice A1 n1 d1) := h.blk.cell 1
theorem Af.c2 (h : Af W g s1 l1 A1 n1 d1 s2 l2 A2 n2 d2) : W.cell? ⟨g, 2, none⟩ = some (.int .i64 s2) := h.blk.cell 2
theorem Af.c3 (h : Af W g s1 l1 A1 n1 d1 s2 l2 A2 n2 d2) : W.cell? ⟨g, 3, none⟩ = some (.slice A2 n2 d2) := h.blk.cell 3
/-- If it is right, it reads as a rational number. -/
theorem Af.bf (h : Af W g s1 l1 A1 n1 d1 s2 l2 A2 n2 d2) (hr : RF s1 l1 s2 l2) :
    ∃ x : Rat, Bf 43 W g s1 A1 n1 d1 s2 A2 n2 d2 x.num x.den ∧ s1 = sgn x.num ∧ Rb x 60 60 ∧ ∀ k : Nat, (n1 ≤ k ∧ n2 ≤ k) → Rb x k k := by
  obtain ⟨x, h1, h2, h3, h4, h5, h6⟩ := hr.fv h.a h.b
  exact ⟨x, ⟨h.blk, h1⟩, h2, ⟨h3, h4⟩, fun k hk => ⟨h5 k hk.1, h6 k hk.2⟩⟩
theorem afboxes1 (h1 : Ar w s1 l1 A1 n1 d1) (h2 : Ar w s2 l2 A2 n2 d2) (h3 : Ar w s3 l3 A3 n3 d3) (h4 : Ar w s4 l4 A4 n4 d4) :
    ∃ W, W = (w.alloc (.cells #[.int .i64 s1, .slice A1 n1 d1, .int .i64 s2, .slice A2 n2 d2] 43)).alloc (.cells #[.int .i64 s3, .slice A3 n3 d3, .int .i64 s4, .slice A4 n4 d4] 43) ∧ Below w.heap.size w W ∧ Af W w.heap.size s1 l1 A1 n1 d1 s2 l2 A2 n2 d2 ∧ Af W (w.heap.size + 1) s3 l3 A3 n3 d3 s4 l4 A4 n4 d4 := by
  have hb1 : Below w.heap.size w (w.alloc (.cells #[.int .i64 s1, .slice A1 n1 d1, .int .i64 s2, .slice A2 n2 d2] 43)) := (Below.refl _ _).alloc (Nat.le_refl _) _
  have hb2 := hb1.alloc hb1.size (.cells #[.int .i64 s3, .slice A3 n3 d3, .int .i64 s4, .slice A4 n4 d4] 43)
  have k1 := Blk.new w 43 #[.int .i64 s1, .slice A1 n1 d1, .int .i64 s2, .slice A2 n2 d2]
  have k2 := Blk.new (w.alloc (.cells #[.int .i64 s1, .slice A1 n1 d1, .int .i64 s2, .slice A2 n2 d2] 43)) 43 #[.int .i64 s3, .slice A3 n3 d3, .int .i64 s4, .slice A4 n4 d4]
  simp only [World.size_alloc] at k2
  exact ⟨_, rfl, hb2, ⟨k1.alloc _, h1.later hb2, h2.later hb2⟩, ⟨k2, h3.later hb2, h4.later hb2⟩⟩
theorem afboxes2 (h1 : Ar w s1 l1 A1 n1 d1) (h2 : Ar w s2 l2 A2 n2 d2) (h3 : Ar w s3 l3 A3 n3 d3) (h4 : Ar w s4 l4 A4 n4 d4) :
    ∃ W, W = ((w.alloc (.cells #[.int .i64 s1, .slice A1 n1 d1, .int .i64 s2, .slice A2 n2 d2] 43)).alloc (.cells #[.int .i64 s3, .slice A3 n3 d3, .int .i64 s4, .slice A4 n4 d4] 43)).alloc (.cells #[.int .i64 0, .slice none 0 0, .int .i64 0, .slice none 0 0] 43) ∧ Below w.heap.size w W ∧ Af W w.heap.size s1 l1 A1 n1 d1 s2 l2 A2 n2 d2 ∧ Af W (w.heap.size + 1) s3 l3 A3 n3 d3 s4 l4 A4 n4 d4 ∧
      Bz W (w.heap.size + 1 + 1) (.int .i64 0) (.slice none 0 0) (.int .i64 0) (.slice none 0 0) := by
  obtain ⟨W, hW, hb, k1, k2⟩ := afboxes1 h1 h2 h3 h4
  rw [← hW]
  have hs : W.heap.size = w.heap.size + 1 + 1 := by rw [hW]; simp
  have h3 := Blk.new W 43 #[.int .i64 0, .slice none 0 0, .int .i64 0, .slice none 0 0]
  rw [hs] at h3
  have hb' : Below W.heap.size W (W.alloc (.cells #[.int .i64 0, .slice none 0 0, .int .i64 0, .slice none 0 0] 43)) := (Below.refl _ _).alloc (Nat.le_refl _) _
  exact ⟨_, rfl, hb.alloc hb.size _, k1.below hb', k2.below hb', ⟨h3⟩⟩
end

set_option maxRecDepth 100000 in
set_option maxHeartbeats 8000000 in
theorem combine_bad {s1 s2 s3 s4 : Int} {l1 l2 l3 l4 : List Int} {A1 A2 A3 A4 : Option Addr} {n1 d1 n2 d2 n3 d3 n4 d4 : Nat} (w : World) (op : Nat) (h1 : Ar w s1 l1 A1 n1 d1) (h2 : Ar w s2 l2 A2 n2 d2) (h3 : Ar w s3 l3 A3 n3 d3) (h4 : Ar w s4 l4 A4 n4 d4) (hb : ¬ (RF s1 l1 s2 l2 ∧ RF s3 l3 s4 l4)) :
    Calls Tryz.prog 92 #[.agg #[.int .i64 s1, .slice A1 n1 d1, .int .i64 s2, .slice A2 n2 d2], .agg #[.int .i64 s3, .slice A3 n3 d3, .int .i64 s4, .slice A4 n4 d4], .func (.func op) #[] #[]] w fun e w' => e = .returned (.tuple #[.agg #[.int .i64 0, .slice none 0 0, .int .i64 0, .slice none 0 0], .int .i64 1]) ∧ Below w.heap.size w w' := by
  have HB := Lib.hid hb; clear hb
  go_enter Tryz.func92, Tryz.ntmps92
  go_wp2_with fail
  obtain ⟨W0, hW, hbx, ka, kb, kR⟩ := afboxes2 h1 h2 h3 h4
  rw [← hW]
  clear hW h1 h2 h3 h4
  have hT := hbx
  have za0 := ka.c0
  have za1 := ka.c1
  have za2 := ka.c2
  have za3 := ka.c3
  go_wp2_with fail
  clear za0 za1 za2 za3
  by_cases hr : RF s1 l1 s2 l2
  · (with_reducible refine (fright_any _ ka.a ka.b true (by simp [hr])).mono ?_)
    rintro e u1 ⟨rfl, hb9⟩
    have hT := hT.trans (hb9.mono hT.size)
    have ka := ka.below hb9
    have kb := kb.below hb9
    have kR := kR.below hb9
    have zb0 := kb.c0
    have zb1 := kb.c1
    have zb2 := kb.c2
    have zb3 := kb.c3
    go_wp2_with fail
    clear zb0 zb1 zb2 zb3
    (with_reducible refine (fright_any _ kb.a kb.b false (by simp only [Bool.false_eq_true, false_iff]; exact fun h => absurd ⟨hr, h⟩ HB.out)).mono ?_)
    rintro e u2 ⟨rfl, hb9⟩
    have hT := hT.trans (hb9.mono hT.size)
    have ka := ka.below hb9
    have kb := kb.below hb9
    have kR := kR.below hb9
    clear ka kb
    have gR : w.heap.size ≤ w.heap.size + 1 + 1 := by omega
    have r0 := kR.blk.cell 0
    have r1 := kR.blk.cell 1
    have r2 := kR.blk.cell 2
    have r3 := kR.blk.cell 3
    have q0' := kR.blk.frozen 0
    have q1' := kR.blk.frozen 1
    have q2' := kR.blk.frozen 2
    have q3' := kR.blk.frozen 3
    simp at r0 r1 r2 r3
    have hbs := kR.blk.set4 (.int .i64 0) (.slice none 0 0) (.int .i64 0) (.slice none 0 0)
    have x0 := hbs.cell 0
    have x1 := hbs.cell 1
    have x2 := hbs.cell 2
    have x3 := hbs.cell 3
    simp at x0 x1 x2 x3
    go_wp2_with fail
    refine bodyPost_ret (v := .tuple #[.agg #[.int .i64 0, .slice none 0 0, .int .i64 0, .slice none 0 0], .int .i64 1]) (by simp [results, Tryz.results92, go_sem, x0, x1, x2, x3]) rfl ?_
    exact ⟨rfl, below_st4 hT gR _ _ _ _⟩
  · (with_reducible refine (fright_any _ ka.a ka.b false (by simp [hr])).mono ?_)
    rintro e u1 ⟨rfl, hb9⟩
    have hT := hT.trans (hb9.mono hT.size)
    have ka := ka.below hb9
    have kb := kb.below hb9
    have kR := kR.below hb9
    clear ka kb
    have gR : w.heap.size ≤ w.heap.size + 1 + 1 := by omega
    have r0 := kR.blk.cell 0
    have r1 := kR.blk.cell 1
    have r2 := kR.blk.cell 2
    have r3 := kR.blk.cell 3
    have q0' := kR.blk.frozen 0
    have q1' := kR.blk.frozen 1
    have q2' := kR.blk.frozen 2
    have q3' := kR.blk.frozen 3
    simp at r0 r1 r2 r3
    have hbs := kR.blk.set4 (.int .i64 0) (.slice none 0 0) (.int .i64 0) (.slice none 0 0)
    have x0 := hbs.cell 0
    have x1 := hbs.cell 1
    have x2 := hbs.cell 2
    have x3 := hbs.cell 3
    simp at x0 x1 x2 x3
    go_wp2_with fail
    refine bodyPost_ret (v := .tuple #[.agg #[.int .i64 0, .slice none 0 0, .int .i64 0, .slice none 0 0], .int .i64 1]) (by simp [results, Tryz.results92, go_sem, x0, x1, x2, x3]) rfl ?_
    exact ⟨rfl, below_st4 hT gR _ _ _ _⟩

set_option maxRecDepth 100000 in
set_option maxHeartbeats 8000000 in
theorem fadd_bad {s1 s2 s3 s4 : Int} {l1 l2 l3 l4 : List Int} {A1 A2 A3 A4 : Option Addr} {n1 d1 n2 d2 n3 d3 n4 d4 : Nat} (w : World) (h1 : Ar w s1 l1 A1 n1 d1) (h2 : Ar w s2 l2 A2 n2 d2) (h3 : Ar w s3 l3 A3 n3 d3) (h4 : Ar w s4 l4 A4 n4 d4) (hb : ¬ (RF s1 l1 s2 l2 ∧ RF s3 l3 s4 l4)) :
    Calls Tryz.prog 35 #[.agg #[.int .i64 s1, .slice A1 n1 d1, .int .i64 s2, .slice A2 n2 d2], .agg #[.int .i64 s3, .slice A3 n3 d3, .int .i64 s4, .slice A4 n4 d4]] w fun e w' => e = .returned (.tuple #[.agg #[.int .i64 0, .slice none 0 0, .int .i64 0, .slice none 0 0], .int .i64 1]) ∧ Below w.heap.size w w' := by
  have HI := Lib.hid (fun (w' : World) (hw : Below w.heap.size w w') => combine_bad w' 7 (h1.later hw) (h2.later hw) (h3.later hw) (h4.later hw) hb)
  go_enter Tryz.func35, Tryz.ntmps35
  go_wp2_with fail
  obtain ⟨W0, hW, hbx, ka, kb, kR⟩ := afboxes2 h1 h2 h3 h4
  rw [← hW]
  clear hW h1 h2 h3 h4 hb
  have hT := hbx
  have za0 := ka.c0
  have za1 := ka.c1
  have za2 := ka.c2
  have za3 := ka.c3
  have zb0 := kb.c0
  have zb1 := kb.c1
  have zb2 := kb.c2
  have zb3 := kb.c3
  go_wp2_with fail
  clear za0 za1 za2 za3
  clear zb0 zb1 zb2 zb3
  (with_reducible refine (HI.out _ hT).mono ?_)
  rintro e u3 ⟨rfl, hb9⟩
  have hT := hT.trans (hb9.mono hT.size)
  have kR := kR.below hb9
  clear ka kb HI
  have gR : w.heap.size ≤ w.heap.size + 1 + 1 := by omega
  have r0 := kR.blk.cell 0
  have r1 := kR.blk.cell 1
  have r2 := kR.blk.cell 2
  have r3 := kR.blk.cell 3
  have q0' := kR.blk.frozen 0
  have q1' := kR.blk.frozen 1
  have q2' := kR.blk.frozen 2
  have q3' := kR.blk.frozen 3
  simp at r0 r1 r2 r3
  have hbs := kR.blk.set4 (.int .i64 0) (.slice none 0 0) (.int .i64 0) (.slice none 0 0)
  have x0 := hbs.cell 0
  have x1 := hbs.cell 1
  have x2 := hbs.cell 2
  have x3 := hbs.cell 3
  simp at x0 x1 x2 x3
  go_wp2_with fail
  refine bodyPost_ret (v := .tuple #[.agg #[.int .i64 0, .slice none 0 0, .int .i64 0, .slice none 0 0], .int .i64 1]) (by simp [results, Tryz.results35, go_sem, x0, x1, x2, x3]) rfl ?_
  exact ⟨rfl, below_st4 hT gR _ _ _ _⟩

set_option maxRecDepth 100000 in
set_option maxHeartbeats 8000000 in
theorem fsub_bad {s1 s2 s3 s4 : Int} {l1 l2 l3 l4 : List Int} {A1 A2 A3 A4 : Option Addr} {n1 d1 n2 d2 n3 d3 n4 d4 : Nat} (w : World) (h1 : Ar w s1 l1 A1 n1 d1) (h2 : Ar w s2 l2 A2 n2 d2) (h3 : Ar w s3 l3 A3 n3 d3) (h4 : Ar w s4 l4 A4 n4 d4) (hb : ¬ (RF s1 l1 s2 l2 ∧ RF s3 l3 s4 l4)) :
    Calls Tryz.prog 37 #[.agg #[.int .i64 s1, .slice A1 n1 d1, .int .i64 s2, .slice A2 n2 d2], .agg #[.int .i64 s3, .slice A3 n3 d3, .int .i64 s4, .slice A4 n4 d4]] w fun e w' => e = .returned (.tuple #[.agg #[.int .i64 0, .slice none 0 0, .int .i64 0, .slice none 0 0], .int .i64 1]) ∧ Below w.heap.size w w' := by
  have HI := Lib.hid (fun (w' : World) (hw : Below w.heap.size w w') => combine_bad w' 9 (h1.later hw) (h2.later hw) (h3.later hw) (h4.later hw) hb)
  go_enter Tryz.func37, Tryz.ntmps37
  go_wp2_with fail
  obtain ⟨W0, hW, hbx, ka, kb, kR⟩ := afboxes2 h1 h2 h3 h4
  rw [← hW]
  clear hW h1 h2 h3 h4 hb
  have hT := hbx
  have za0 := ka.c0
  have za1 := ka.c1
  have za2 := ka.c2
  have za3 := ka.c3
  have zb0 := kb.c0
  have zb1 := kb.c1
  have zb2 := kb.c2
  have zb3 := kb.c3
  go_wp2_with fail
  clear za0 za1 za2 za3
  clear zb0 zb1 zb2 zb3
  (with_reducible refine (HI.out _ hT).mono ?_)
  rintro e u3 ⟨rfl, hb9⟩
  have hT := hT.trans (hb9.mono hT.size)
  have kR := kR.below hb9
  clear ka kb HI
  have gR : w.heap.size ≤ w.heap.size + 1 + 1 := by omega
  have r0 := kR.blk.cell 0
  have r1 := kR.blk.cell 1
  have r2 := kR.blk.cell 2
  have r3 := kR.blk.cell 3
  have q0' := kR.blk.frozen 0
  have q1' := kR.blk.frozen 1
  have q2' := kR.blk.frozen 2
  have q3' := kR.blk.frozen 3
  simp at r0 r1 r2 r3
  have hbs := kR.blk.set4 (.int .i64 0) (.slice none 0 0) (.int .i64 0) (.slice none 0 0)
  have x0 := hbs.cell 0
  have x1 := hbs.cell 1
  have x2 := hbs.cell 2
  have x3 := hbs.cell 3
  simp at x0 x1 x2 x3
  go_wp2_with fail
  refine bodyPost_ret (v := .tuple #[.agg #[.int .i64 0, .slice none 0 0, .int .i64 0, .slice none 0 0], .int .i64 1]) (by simp [results, Tryz.results37, go_sem, x0, x1, x2, x3]) rfl ?_
  exact ⟨rfl, below_st4 hT gR _ _ _ _⟩

set_option maxRecDepth 100000 in
set_option maxHeartbeats 8000000 in
theorem fmul_bad {s1 s2 s3 s4 : Int} {l1 l2 l3 l4 : List Int} {A1 A2 A3 A4 : Option Addr} {n1 d1 n2 d2 n3 d3 n4 d4 : Nat} (w : World) (h1 : Ar w s1 l1 A1 n1 d1) (h2 : Ar w s2 l2 A2 n2 d2) (h3 : Ar w s3 l3 A3 n3 d3) (h4 : Ar w s4 l4 A4 n4 d4) (hb : ¬ (RF s1 l1 s2 l2 ∧ RF s3 l3 s4 l4)) :
    Calls Tryz.prog 40 #[.agg #[.int .i64 s1, .slice A1 n1 d1, .int .i64 s2, .slice A2 n2 d2], .agg #[.int .i64 s3, .slice A3 n3 d3, .int .i64 s4, .slice A4 n4 d4]] w fun e w' => e = .returned (.tuple #[.agg #[.int .i64 0, .slice none 0 0, .int .i64 0, .slice none 0 0], .int .i64 1]) ∧ Below w.heap.size w w' := by
  have HB := Lib.hid hb; clear hb
  go_enter Tryz.func40, Tryz.ntmps40
  go_wp2_with fail
  obtain ⟨W0, hW, hbx, ka, kb, kR⟩ := afboxes2 h1 h2 h3 h4
  rw [← hW]
  clear hW h1 h2 h3 h4
  have hT := hbx
  have za0 := ka.c0
  have za1 := ka.c1
  have za2 := ka.c2
  have za3 := ka.c3
  go_wp2_with fail
  clear za0 za1 za2 za3
  by_cases hr : RF s1 l1 s2 l2
  · (with_reducible refine (fright_any _ ka.a ka.b true (by simp [hr])).mono ?_)
    rintro e u1 ⟨rfl, hb9⟩
    have hT := hT.trans (hb9.mono hT.size)
    have ka := ka.below hb9
    have kb := kb.below hb9
    have kR := kR.below hb9
    have zb0 := kb.c0
    have zb1 := kb.c1
    have zb2 := kb.c2
    have zb3 := kb.c3
    go_wp2_with fail
    clear zb0 zb1 zb2 zb3
    (with_reducible refine (fright_any _ kb.a kb.b false (by simp only [Bool.false_eq_true, false_iff]; exact fun h => absurd ⟨hr, h⟩ HB.out)).mono ?_)
    rintro e u2 ⟨rfl, hb9⟩
    have hT := hT.trans (hb9.mono hT.size)
    have ka := ka.below hb9
    have kb := kb.below hb9
    have kR := kR.below hb9
    clear ka kb
    have gR : w.heap.size ≤ w.heap.size + 1 + 1 := by omega
    have r0 := kR.blk.cell 0
    have r1 := kR.blk.cell 1
    have r2 := kR.blk.cell 2
    have r3 := kR.blk.cell 3
    have q0' := kR.blk.frozen 0
    have q1' := kR.blk.frozen 1
    have q2' := kR.blk.frozen 2
    have q3' := kR.blk.frozen 3
    simp at r0 r1 r2 r3
    have hbs := kR.blk.set4 (.int .i64 0) (.slice none 0 0) (.int .i64 0) (.slice none 0 0)
    have x0 := hbs.cell 0
    have x1 := hbs.cell 1
    have x2 := hbs.cell 2
    have x3 := hbs.cell 3
    simp at x0 x1 x2 x3
    go_wp2_with fail
    refine bodyPost_ret (v := .tuple #[.agg #[.int .i64 0, .slice none 0 0, .int .i64 0, .slice none 0 0], .int .i64 1]) (by simp [results, Tryz.results40, go_sem, x0, x1, x2, x3]) rfl ?_
    exact ⟨rfl, below_st4 hT gR _ _ _ _⟩
  · (with_reducible refine (fright_any _ ka.a ka.b false (by simp [hr])).mono ?_)
    rintro e u1 ⟨rfl, hb9⟩
    have hT := hT.trans (hb9.mono hT.size)
    have ka := ka.below hb9
    have kb := kb.below hb9
    have kR := kR.below hb9
    clear ka kb
    have gR : w.heap.size ≤ w.heap.size + 1 + 1 := by omega
    have r0 := kR.blk.cell 0
    have r1 := kR.blk.cell 1
    have r2 := kR.blk.cell 2
    have r3 := kR.blk.cell 3
    have q0' := kR.blk.frozen 0
    have q1' := kR.blk.frozen 1
    have q2' := kR.blk.frozen 2
    have q3' := kR.blk.frozen 3
    simp at r0 r1 r2 r3
    have hbs := kR.blk.set4 (.int .i64 0) (.slice none 0 0) (.int .i64 0) (.slice none 0 0)
    have x0 := hbs.cell 0
    have x1 := hbs.cell 1
    have x2 := hbs.cell 2
    have x3 := hbs.cell 3
    simp at x0 x1 x2 x3
    go_wp2_with fail
    refine bodyPost_ret (v := .tuple #[.agg #[.int .i64 0, .slice none 0 0, .int .i64 0, .slice none 0 0], .int .i64 1]) (by simp [results, Tryz.results40, go_sem, x0, x1, x2, x3]) rfl ?_
    exact ⟨rfl, below_st4 hT gR _ _ _ _⟩

set_option maxRecDepth 100000 in
set_option maxHeartbeats 8000000 in
theorem fdiv_bad {s1 s2 s3 s4 : Int} {l1 l2 l3 l4 : List Int} {A1 A2 A3 A4 : Option Addr} {n1 d1 n2 d2 n3 d3 n4 d4 : Nat} (w : World) (h1 : Ar w s1 l1 A1 n1 d1) (h2 : Ar w s2 l2 A2 n2 d2) (h3 : Ar w s3 l3 A3 n3 d3) (h4 : Ar w s4 l4 A4 n4 d4) (hb : ¬ (RF s1 l1 s2 l2 ∧ RF s3 l3 s4 l4)) :
    Calls Tryz.prog 42 #[.agg #[.int .i64 s1, .slice A1 n1 d1, .int .i64 s2, .slice A2 n2 d2], .agg #[.int .i64 s3, .slice A3 n3 d3, .int .i64 s4, .slice A4 n4 d4]] w fun e w' => e = .returned (.tuple #[.agg #[.int .i64 0, .slice none 0 0, .int .i64 0, .slice none 0 0], .int .i64 1]) ∧ Below w.heap.size w w' := by
  have HB := Lib.hid hb; clear hb
  go_enter Tryz.func42, Tryz.ntmps42
  go_wp2_with fail
  obtain ⟨W0, hW, hbx, ka, kb, kR⟩ := afboxes2 h1 h2 h3 h4
  rw [← hW]
  clear hW h1 h2 h3 h4
  have hT := hbx
  have za0 := ka.c0
  have za1 := ka.c1
  have za2 := ka.c2
  have za3 := ka.c3
  go_wp2_with fail
  clear za0 za1 za2 za3
  by_cases hr : RF s1 l1 s2 l2
  · (with_reducible refine (fright_any _ ka.a ka.b true (by simp [hr])).mono ?_)
    rintro e u1 ⟨rfl, hb9⟩
    have hT := hT.trans (hb9.mono hT.size)
    have ka := ka.below hb9
    have kb := kb.below hb9
    have kR := kR.below hb9
    have zb0 := kb.c0
    have zb1 := kb.c1
    have zb2 := kb.c2
    have zb3 := kb.c3
    go_wp2_with fail
    clear zb0 zb1 zb2 zb3
    (with_reducible refine (fright_any _ kb.a kb.b false (by simp only [Bool.false_eq_true, false_iff]; exact fun h => absurd ⟨hr, h⟩ HB.out)).mono ?_)
    rintro e u2 ⟨rfl, hb9⟩
    have hT := hT.trans (hb9.mono hT.size)
    have ka := ka.below hb9
    have kb := kb.below hb9
    have kR := kR.below hb9
    clear ka kb
    have gR : w.heap.size ≤ w.heap.size + 1 + 1 := by omega
    have r0 := kR.blk.cell 0
    have r1 := kR.blk.cell 1
    have r2 := kR.blk.cell 2
    have r3 := kR.blk.cell 3
    have q0' := kR.blk.frozen 0
    have q1' := kR.blk.frozen 1
    have q2' := kR.blk.frozen 2
    have q3' := kR.blk.frozen 3
    simp at r0 r1 r2 r3
    have hbs := kR.blk.set4 (.int .i64 0) (.slice none 0 0) (.int .i64 0) (.slice none 0 0)
    have x0 := hbs.cell 0
    have x1 := hbs.cell 1
    have x2 := hbs.cell 2
    have x3 := hbs.cell 3
    simp at x0 x1 x2 x3
    go_wp2_with fail
    refine bodyPost_ret (v := .tuple #[.agg #[.int .i64 0, .slice none 0 0, .int .i64 0, .slice none 0 0], .int .i64 1]) (by simp [results, Tryz.results42, go_sem, x0, x1, x2, x3]) rfl ?_
    exact ⟨rfl, below_st4 hT gR _ _ _ _⟩
  · (with_reducible refine (fright_any _ ka.a ka.b false (by simp [hr])).mono ?_)
    rintro e u1 ⟨rfl, hb9⟩
    have hT := hT.trans (hb9.mono hT.size)
    have ka := ka.below hb9
    have kb := kb.below hb9
    have kR := kR.below hb9
    clear ka kb
    have gR : w.heap.size ≤ w.heap.size + 1 + 1 := by omega
    have r0 := kR.blk.cell 0
    have r1 := kR.blk.cell 1
    have r2 := kR.blk.cell 2
    have r3 := kR.blk.cell 3
    have q0' := kR.blk.frozen 0
    have q1' := kR.blk.frozen 1
    have q2' := kR.blk.frozen 2
    have q3' := kR.blk.frozen 3
    simp at r0 r1 r2 r3
    have hbs := kR.blk.set4 (.int .i64 0) (.slice none 0 0) (.int .i64 0) (.slice none 0 0)
    have x0 := hbs.cell 0
    have x1 := hbs.cell 1
    have x2 := hbs.cell 2
    have x3 := hbs.cell 3
    simp at x0 x1 x2 x3
    go_wp2_with fail
    refine bodyPost_ret (v := .tuple #[.agg #[.int .i64 0, .slice none 0 0, .int .i64 0, .slice none 0 0], .int .i64 1]) (by simp [results, Tryz.results42, go_sem, x0, x1, x2, x3]) rfl ?_
    exact ⟨rfl, below_st4 hT gR _ _ _ _⟩

set_option maxRecDepth 100000 in
set_option maxHeartbeats 8000000 in
theorem fcompare_bad {s1 s2 s3 s4 : Int} {l1 l2 l3 l4 : List Int} {A1 A2 A3 A4 : Option Addr} {n1 d1 n2 d2 n3 d3 n4 d4 : Nat} (w : World) (h1 : Ar w s1 l1 A1 n1 d1) (h2 : Ar w s2 l2 A2 n2 d2) (h3 : Ar w s3 l3 A3 n3 d3) (h4 : Ar w s4 l4 A4 n4 d4) (hb : ¬ (RF s1 l1 s2 l2 ∧ RF s3 l3 s4 l4)) :
    Calls Tryz.prog 52 #[.agg #[.int .i64 s1, .slice A1 n1 d1, .int .i64 s2, .slice A2 n2 d2], .agg #[.int .i64 s3, .slice A3 n3 d3, .int .i64 s4, .slice A4 n4 d4]] w fun e w' => e = .returned (.int .i64 0) ∧ Below w.heap.size w w' := by
  have HB := Lib.hid hb; clear hb
  go_enter Tryz.func52, Tryz.ntmps52
  go_wp2_with fail
  obtain ⟨W0, hW, hbx, ka, kb⟩ := afboxes1 h1 h2 h3 h4
  rw [← hW]
  clear hW h1 h2 h3 h4
  have hT := hbx
  have za0 := ka.c0
  have za1 := ka.c1
  have za2 := ka.c2
  have za3 := ka.c3
  go_wp2_with fail
  clear za0 za1 za2 za3
  by_cases hr : RF s1 l1 s2 l2
  · (with_reducible refine (fright_any _ ka.a ka.b true (by simp [hr])).mono ?_)
    rintro e u1 ⟨rfl, hb9⟩
    have hT := hT.trans (hb9.mono hT.size)
    have ka := ka.below hb9
    have kb := kb.below hb9
    have zb0 := kb.c0
    have zb1 := kb.c1
    have zb2 := kb.c2
    have zb3 := kb.c3
    go_wp2_with fail
    clear zb0 zb1 zb2 zb3
    (with_reducible refine (fright_any _ kb.a kb.b false (by simp only [Bool.false_eq_true, false_iff]; exact fun h => absurd ⟨hr, h⟩ HB.out)).mono ?_)
    rintro e u2 ⟨rfl, hb9⟩
    have hT := hT.trans (hb9.mono hT.size)
    have ka := ka.below hb9
    have kb := kb.below hb9
    clear ka kb
    go_wp2_with fail
    go_ret
    exact ⟨rfl, hT⟩
  · (with_reducible refine (fright_any _ ka.a ka.b false (by simp [hr])).mono ?_)
    rintro e u1 ⟨rfl, hb9⟩
    have hT := hT.trans (hb9.mono hT.size)
    have ka := ka.below hb9
    have kb := kb.below hb9
    clear ka kb
    go_wp2_with fail
    go_ret
    exact ⟨rfl, hT⟩

end Go.Proofs.YtkjpfnbdlbnbkaaGreatDoor

namespace Go.Proofs.YtkjpfnbdlbnbkaaGreatDoor
open Go.RowKit

set_option maxRecDepth 100000 in
set_option maxHeartbeats 8000000 in
theorem rfmul_bad {s1 s2 s3 s4 : Int} {l1 l2 l3 l4 : List Int} {A1 A2 A3 A4 : Option Addr} {n1 d1 n2 d2 n3 d3 n4 d4 : Nat} (w : World) (h1 : Ar w s1 l1 A1 n1 d1) (h2 : Ar w s2 l2 A2 n2 d2) (h3 : Ar w s3 l3 A3 n3 d3) (h4 : Ar w s4 l4 A4 n4 d4) (hb : ¬ (RF s1 l1 s2 l2 ∧ RF s3 l3 s4 l4)) :
    Calls Tryz.prog 41 #[.agg #[.int .i64 s1, .slice A1 n1 d1, .int .i64 s2, .slice A2 n2 d2], .agg #[.int .i64 s3, .slice A3 n3 d3, .int .i64 s4, .slice A4 n4 d4]] w fun e w' => e = .returned (.tuple #[.agg #[.int .i64 0, .slice none 0 0, .int .i64 0, .slice none 0 0], .int .i64 1]) ∧ Below w.heap.size w w' := by
  have HB := Lib.hid hb; clear hb
  go_enter Tryz.func41, Tryz.ntmps41
  go_wp2_with fail
  obtain ⟨W0, hW, hbx, ka, kb, kR⟩ := afboxes2 h1 h2 h3 h4
  rw [← hW]
  clear hW h1 h2 h3 h4
  have hT := hbx
  have za0 := ka.c0
  have za1 := ka.c1
  have za2 := ka.c2
  have za3 := ka.c3
  go_wp2_with fail
  clear za0 za1 za2 za3
  by_cases hr : RF s1 l1 s2 l2
  · (with_reducible refine (rfright_any _ ka.a ka.b true (by simp [hr])).mono ?_)
    rintro e u1 ⟨rfl, hb9⟩
    have hT := hT.trans (hb9.mono hT.size)
    have ka := ka.below hb9
    have kb := kb.below hb9
    have kR := kR.below hb9
    have zb0 := kb.c0
    have zb1 := kb.c1
    have zb2 := kb.c2
    have zb3 := kb.c3
    go_wp2_with fail
    clear zb0 zb1 zb2 zb3
    (with_reducible refine (rfright_any _ kb.a kb.b false (by simp only [Bool.false_eq_true, false_iff]; exact fun h => absurd ⟨hr, h⟩ HB.out)).mono ?_)
    rintro e u2 ⟨rfl, hb9⟩
    have hT := hT.trans (hb9.mono hT.size)
    have ka := ka.below hb9
    have kb := kb.below hb9
    have kR := kR.below hb9
    clear ka kb
    have gR : w.heap.size ≤ w.heap.size + 1 + 1 := by omega
    have r0 := kR.blk.cell 0
    have r1 := kR.blk.cell 1
    have r2 := kR.blk.cell 2
    have r3 := kR.blk.cell 3
    have q0' := kR.blk.frozen 0
    have q1' := kR.blk.frozen 1
    have q2' := kR.blk.frozen 2
    have q3' := kR.blk.frozen 3
    simp at r0 r1 r2 r3
    have hbs := kR.blk.set4 (.int .i64 0) (.slice none 0 0) (.int .i64 0) (.slice none 0 0)
    have x0 := hbs.cell 0
    have x1 := hbs.cell 1
    have x2 := hbs.cell 2
    have x3 := hbs.cell 3
    simp at x0 x1 x2 x3
    go_wp2_with fail
    refine bodyPost_ret (v := .tuple #[.agg #[.int .i64 0, .slice none 0 0, .int .i64 0, .slice none 0 0], .int .i64 1]) (by simp [results, Tryz.results41, go_sem, x0, x1, x2, x3]) rfl ?_
    exact ⟨rfl, below_st4 hT gR _ _ _ _⟩
  · (with_reducible refine (rfright_any _ ka.a ka.b false (by simp [hr])).mono ?_)
    rintro e u1 ⟨rfl, hb9⟩
    have hT := hT.trans (hb9.mono hT.size)
    have ka := ka.below hb9
    have kb := kb.below hb9
    have kR := kR.below hb9
    clear ka kb
    have gR : w.heap.size ≤ w.heap.size + 1 + 1 := by omega
    have r0 := kR.blk.cell 0
    have r1 := kR.blk.cell 1
    have r2 := kR.blk.cell 2
    have r3 := kR.blk.cell 3
    have q0' := kR.blk.frozen 0
    have q1' := kR.blk.frozen 1
    have q2' := kR.blk.frozen 2
    have q3' := kR.blk.frozen 3
    simp at r0 r1 r2 r3
    have hbs := kR.blk.set4 (.int .i64 0) (.slice none 0 0) (.int .i64 0) (.slice none 0 0)
    have x0 := hbs.cell 0
    have x1 := hbs.cell 1
    have x2 := hbs.cell 2
    have x3 := hbs.cell 3
    simp at x0 x1 x2 x3
    go_wp2_with fail
    refine bodyPost_ret (v := .tuple #[.agg #[.int .i64 0, .slice none 0 0, .int .i64 0, .slice none 0 0], .int .i64 1]) (by simp [results, Tryz.results41, go_sem, x0, x1, x2, x3]) rfl ?_
    exact ⟨rfl, below_st4 hT gR _ _ _ _⟩
set_option maxRecDepth 100000 in
set_option maxHeartbeats 8000000 in
theorem rfdiv_bad {s1 s2 s3 s4 : Int} {l1 l2 l3 l4 : List Int} {A1 A2 A3 A4 : Option Addr} {n1 d1 n2 d2 n3 d3 n4 d4 : Nat} (w : World) (h1 : Ar w s1 l1 A1 n1 d1) (h2 : Ar w s2 l2 A2 n2 d2) (h3 : Ar w s3 l3 A3 n3 d3) (h4 : Ar w s4 l4 A4 n4 d4) (hb : ¬ (RF s1 l1 s2 l2 ∧ RF s3 l3 s4 l4)) :
    Calls Tryz.prog 43 #[.agg #[.int .i64 s1, .slice A1 n1 d1, .int .i64 s2, .slice A2 n2 d2], .agg #[.int .i64 s3, .slice A3 n3 d3, .int .i64 s4, .slice A4 n4 d4]] w fun e w' => e = .returned (.tuple #[.agg #[.int .i64 0, .slice none 0 0, .int .i64 0, .slice none 0 0], .int .i64 1]) ∧ Below w.heap.size w w' := by
  have HB := Lib.hid hb; clear hb
  go_enter Tryz.func43, Tryz.ntmps43
  go_wp2_with fail
  obtain ⟨W0, hW, hbx, ka, kb, kR⟩ := afboxes2 h1 h2 h3 h4
  rw [← hW]
  clear hW h1 h2 h3 h4
  have hT := hbx
  have za0 := ka.c0
  have za1 := ka.c1
  have za2 := ka.c2
  have za3 := ka.c3
  go_wp2_with fail
  clear za0 za1 za2 za3
  by_cases hr : RF s1 l1 s2 l2
  · (with_reducible refine (rfright_any _ ka.a ka.b true (by simp [hr])).mono ?_)
    rintro e u1 ⟨rfl, hb9⟩
    have hT := hT.trans (hb9.mono hT.size)
    have ka := ka.below hb9
    have kb := kb.below hb9
    have kR := kR.below hb9
    have zb0 := kb.c0
    have zb1 := kb.c1
    have zb2 := kb.c2
    have zb3 := kb.c3
    go_wp2_with fail
    clear zb0 zb1 zb2 zb3
    (with_reducible refine (rfright_any _ kb.a kb.b false (by simp only [Bool.false_eq_true, false_iff]; exact fun h => absurd ⟨hr, h⟩ HB.out)).mono ?_)
    rintro e u2 ⟨rfl, hb9⟩
    have hT := hT.trans (hb9.mono hT.size)
    have ka := ka.below hb9
    have kb := kb.below hb9
    have kR := kR.below hb9
    clear ka kb
    have gR : w.heap.size ≤ w.heap.size + 1 + 1 := by omega
    have r0 := kR.blk.cell 0
    have r1 := kR.blk.cell 1
    have r2 := kR.blk.cell 2
    have r3 := kR.blk.cell 3
    have q0' := kR.blk.frozen 0
    have q1' := kR.blk.frozen 1
    have q2' := kR.blk.frozen 2
    have q3' := kR.blk.frozen 3
    simp at r0 r1 r2 r3
    have hbs := kR.blk.set4 (.int .i64 0) (.slice none 0 0) (.int .i64 0) (.slice none 0 0)
    have x0 := hbs.cell 0
    have x1 := hbs.cell 1
    have x2 := hbs.cell 2
    have x3 := hbs.cell 3
    simp at x0 x1 x2 x3
    go_wp2_with fail
    refine bodyPost_ret (v := .tuple #[.agg #[.int .i64 0, .slice none 0 0, .int .i64 0, .slice none 0 0], .int .i64 1]) (by simp [results, Tryz.results43, go_sem, x0, x1, x2, x3]) rfl ?_
    exact ⟨rfl, below_st4 hT gR _ _ _ _⟩
  · (with_reducible refine (rfright_any _ ka.a ka.b false (by simp [hr])).mono ?_)
    rintro e u1 ⟨rfl, hb9⟩
    have hT := hT.trans (hb9.mono hT.size)
    have ka := ka.below hb9
    have kb := kb.below hb9
    have kR := kR.below hb9
    clear ka kb
    have gR : w.heap.size ≤ w.heap.size + 1 + 1 := by omega
    have r0 := kR.blk.cell 0
    have r1 := kR.blk.cell 1
    have r2 := kR.blk.cell 2
    have r3 := kR.blk.cell 3
    have q0' := kR.blk.frozen 0
    have q1' := kR.blk.frozen 1
    have q2' := kR.blk.frozen 2
    have q3' := kR.blk.frozen 3
    simp at r0 r1 r2 r3
    have hbs := kR.blk.set4 (.int .i64 0) (.slice none 0 0) (.int .i64 0) (.slice none 0 0)
    have x0 := hbs.cell 0
    have x1 := hbs.cell 1
    have x2 := hbs.cell 2
    have x3 := hbs.cell 3
    simp at x0 x1 x2 x3
    go_wp2_with fail
    refine bodyPost_ret (v := .tuple #[.agg #[.int .i64 0, .slice none 0 0, .int .i64 0, .slice none 0 0], .int .i64 1]) (by simp [results, Tryz.results43, go_sem, x0, x1, x2, x3]) rfl ?_
    exact ⟨rfl, below_st4 hT gR _ _ _ _⟩
set_option maxRecDepth 100000 in
set_option maxHeartbeats 8000000 in
theorem rfadd_bad {s1 s2 s3 s4 : Int} {l1 l2 l3 l4 : List Int} {A1 A2 A3 A4 : Option Addr} {n1 d1 n2 d2 n3 d3 n4 d4 : Nat} (w : World) (h1 : Ar w s1 l1 A1 n1 d1) (h2 : Ar w s2 l2 A2 n2 d2) (h3 : Ar w s3 l3 A3 n3 d3) (h4 : Ar w s4 l4 A4 n4 d4) (hb : ¬ (RF s1 l1 s2 l2 ∧ RF s3 l3 s4 l4)) :
    Calls Tryz.prog 36 #[.agg #[.int .i64 s1, .slice A1 n1 d1, .int .i64 s2, .slice A2 n2 d2], .agg #[.int .i64 s3, .slice A3 n3 d3, .int .i64 s4, .slice A4 n4 d4]] w fun e w' => e = .returned (.tuple #[.agg #[.int .i64 0, .slice none 0 0, .int .i64 0, .slice none 0 0], .int .i64 1]) ∧ Below w.heap.size w w' := by
  have HB := Lib.hid hb; clear hb
  go_enter Tryz.func36, Tryz.ntmps36
  go_wp2_with fail
  obtain ⟨W0, hW, hbx, ka, kb, kR⟩ := afboxes2 h1 h2 h3 h4
  rw [← hW]
  clear hW h1 h2 h3 h4
  have hT := hbx
  have za0 := ka.c0
  have za1 := ka.c1
  have za2 := ka.c2
  have za3 := ka.c3
  go_wp2_with fail
  clear za0 za1 za2 za3
  by_cases hr : RF s1 l1 s2 l2
  · (with_reducible refine (rfright_any _ ka.a ka.b true (by simp [hr])).mono ?_)
    rintro e u1 ⟨rfl, hb9⟩
    have hT := hT.trans (hb9.mono hT.size)
    have ka := ka.below hb9
    have kb := kb.below hb9
    have kR := kR.below hb9
    have zb0 := kb.c0
    have zb1 := kb.c1
    have zb2 := kb.c2
    have zb3 := kb.c3
    go_wp2_with fail
    clear zb0 zb1 zb2 zb3
    (with_reducible refine (rfright_any _ kb.a kb.b false (by simp only [Bool.false_eq_true, false_iff]; exact fun h => absurd ⟨hr, h⟩ HB.out)).mono ?_)
    rintro e u2 ⟨rfl, hb9⟩
    have hT := hT.trans (hb9.mono hT.size)
    have ka := ka.below hb9
    have kb := kb.below hb9
    have kR := kR.below hb9
    clear ka kb
    have gR : w.heap.size ≤ w.heap.size + 1 + 1 := by omega
    have r0 := kR.blk.cell 0
    have r1 := kR.blk.cell 1
    have r2 := kR.blk.cell 2
    have r3 := kR.blk.cell 3
    have q0' := kR.blk.frozen 0
    have q1' := kR.blk.frozen 1
    have q2' := kR.blk.frozen 2
    have q3' := kR.blk.frozen 3
    simp at r0 r1 r2 r3
    have hbs := kR.blk.set4 (.int .i64 0) (.slice none 0 0) (.int .i64 0) (.slice none 0 0)
    have x0 := hbs.cell 0
    have x1 := hbs.cell 1
    have x2 := hbs.cell 2
    have x3 := hbs.cell 3
    simp at x0 x1 x2 x3
    go_wp2_with fail
    refine bodyPost_ret (v := .tuple #[.agg #[.int .i64 0, .slice none 0 0, .int .i64 0, .slice none 0 0], .int .i64 1]) (by simp [results, Tryz.results36, go_sem, x0, x1, x2, x3]) rfl ?_
    exact ⟨rfl, below_st4 hT gR _ _ _ _⟩
  · (with_reducible refine (rfright_any _ ka.a ka.b false (by simp [hr])).mono ?_)
    rintro e u1 ⟨rfl, hb9⟩
    have hT := hT.trans (hb9.mono hT.size)
    have ka := ka.below hb9
    have kb := kb.below hb9
    have kR := kR.below hb9
    clear ka kb
    have gR : w.heap.size ≤ w.heap.size + 1 + 1 := by omega
    have r0 := kR.blk.cell 0
    have r1 := kR.blk.cell 1
    have r2 := kR.blk.cell 2
    have r3 := kR.blk.cell 3
    have q0' := kR.blk.frozen 0
    have q1' := kR.blk.frozen 1
    have q2' := kR.blk.frozen 2
    have q3' := kR.blk.frozen 3
    simp at r0 r1 r2 r3
    have hbs := kR.blk.set4 (.int .i64 0) (.slice none 0 0) (.int .i64 0) (.slice none 0 0)
    have x0 := hbs.cell 0
    have x1 := hbs.cell 1
    have x2 := hbs.cell 2
    have x3 := hbs.cell 3
    simp at x0 x1 x2 x3
    go_wp2_with fail
    refine bodyPost_ret (v := .tuple #[.agg #[.int .i64 0, .slice none 0 0, .int .i64 0, .slice none 0 0], .int .i64 1]) (by simp [results, Tryz.results36, go_sem, x0, x1, x2, x3]) rfl ?_
    exact ⟨rfl, below_st4 hT gR _ _ _ _⟩
set_option maxRecDepth 100000 in
set_option maxHeartbeats 8000000 in
theorem rfsub_bad {s1 s2 s3 s4 : Int} {l1 l2 l3 l4 : List Int} {A1 A2 A3 A4 : Option Addr} {n1 d1 n2 d2 n3 d3 n4 d4 : Nat} (w : World) (h1 : Ar w s1 l1 A1 n1 d1) (h2 : Ar w s2 l2 A2 n2 d2) (h3 : Ar w s3 l3 A3 n3 d3) (h4 : Ar w s4 l4 A4 n4 d4) (hb : ¬ (RF s1 l1 s2 l2 ∧ RF s3 l3 s4 l4)) :
    Calls Tryz.prog 38 #[.agg #[.int .i64 s1, .slice A1 n1 d1, .int .i64 s2, .slice A2 n2 d2], .agg #[.int .i64 s3, .slice A3 n3 d3, .int .i64 s4, .slice A4 n4 d4]] w fun e w' => e = .returned (.tuple #[.agg #[.int .i64 0, .slice none 0 0, .int .i64 0, .slice none 0 0], .int .i64 1]) ∧ Below w.heap.size w w' := by
  have HB := Lib.hid hb; clear hb
  go_enter Tryz.func38, Tryz.ntmps38
  go_wp2_with fail
  obtain ⟨W0, hW, hbx, ka, kb, kR⟩ := afboxes2 h1 h2 h3 h4
  rw [← hW]
  clear hW h1 h2 h3 h4
  have hT := hbx
  have za0 := ka.c0
  have za1 := ka.c1
  have za2 := ka.c2
  have za3 := ka.c3
  go_wp2_with fail
  clear za0 za1 za2 za3
  by_cases hr : RF s1 l1 s2 l2
  · (with_reducible refine (rfright_any _ ka.a ka.b true (by simp [hr])).mono ?_)
    rintro e u1 ⟨rfl, hb9⟩
    have hT := hT.trans (hb9.mono hT.size)
    have ka := ka.below hb9
    have kb := kb.below hb9
    have kR := kR.below hb9
    have zb0 := kb.c0
    have zb1 := kb.c1
    have zb2 := kb.c2
    have zb3 := kb.c3
    go_wp2_with fail
    clear zb0 zb1 zb2 zb3
    (with_reducible refine (rfright_any _ kb.a kb.b false (by simp only [Bool.false_eq_true, false_iff]; exact fun h => absurd ⟨hr, h⟩ HB.out)).mono ?_)
    rintro e u2 ⟨rfl, hb9⟩
    have hT := hT.trans (hb9.mono hT.size)
    have ka := ka.below hb9
    have kb := kb.below hb9
    have kR := kR.below hb9
    clear ka kb
    have gR : w.heap.size ≤ w.heap.size + 1 + 1 := by omega
    have r0 := kR.blk.cell 0
    have r1 := kR.blk.cell 1
    have r2 := kR.blk.cell 2
    have r3 := kR.blk.cell 3
    have q0' := kR.blk.frozen 0
    have q1' := kR.blk.frozen 1
    have q2' := kR.blk.frozen 2
    have q3' := kR.blk.frozen 3
    simp at r0 r1 r2 r3
    have hbs := kR.blk.set4 (.int .i64 0) (.slice none 0 0) (.int .i64 0) (.slice none 0 0)
    have x0 := hbs.cell 0
    have x1 := hbs.cell 1
    have x2 := hbs.cell 2
    have x3 := hbs.cell 3
    simp at x0 x1 x2 x3
    go_wp2_with fail
    refine bodyPost_ret (v := .tuple #[.agg #[.int .i64 0, .slice none 0 0, .int .i64 0, .slice none 0 0], .int .i64 1]) (by simp [results, Tryz.results38, go_sem, x0, x1, x2, x3]) rfl ?_
    exact ⟨rfl, below_st4 hT gR _ _ _ _⟩
  · (with_reducible refine (rfright_any _ ka.a ka.b false (by simp [hr])).mono ?_)
    rintro e u1 ⟨rfl, hb9⟩
    have hT := hT.trans (hb9.mono hT.size)
    have ka := ka.below hb9
    have kb := kb.below hb9
    have kR := kR.below hb9
    clear ka kb
    have gR : w.heap.size ≤ w.heap.size + 1 + 1 := by omega
    have r0 := kR.blk.cell 0
    have r1 := kR.blk.cell 1
    have r2 := kR.blk.cell 2
    have r3 := kR.blk.cell 3
    have q0' := kR.blk.frozen 0
    have q1' := kR.blk.frozen 1
    have q2' := kR.blk.frozen 2
    have q3' := kR.blk.frozen 3
    simp at r0 r1 r2 r3
    have hbs := kR.blk.set4 (.int .i64 0) (.slice none 0 0) (.int .i64 0) (.slice none 0 0)
    have x0 := hbs.cell 0
    have x1 := hbs.cell 1
    have x2 := hbs.cell 2
    have x3 := hbs.cell 3
    simp at x0 x1 x2 x3
    go_wp2_with fail
    refine bodyPost_ret (v := .tuple #[.agg #[.int .i64 0, .slice none 0 0, .int .i64 0, .slice none 0 0], .int .i64 1]) (by simp [results, Tryz.results38, go_sem, x0, x1, x2, x3]) rfl ?_
    exact ⟨rfl, below_st4 hT gR _ _ _ _⟩

end Go.Proofs.YtkjpfnbdlbnbkaaGreatDoor
