/- Boxes of fractions as they came in; Add, Sub, Mul, Div and Compare where one is not right. Printed by a program (fbad.py). Walks: Of of fractions, and the laws' own. Printed by a program. Walks: the laws' right, at a right fraction. -/
import Derived.Test.YtgpmmpajnfbecaaGreatXas
import Derived.Test.YtgpmmpajnfbecaaGreatXat
import Derived.Test.YtgpmmpajnfbecaaGreatXar
import Derived.Test.YtgpmmpajnfbecaaGreatXal

namespace Go.Proofs.YtgpmmpajnfbecaaGreat
open Go.RowKit

/-- A box that holds a fraction as it came in. -/
structure Af (W : World) (g : Nat) (s1 : Int) (l1 : List Int) (A1 : Option Addr) (n1 c1 : Nat) (s2 : Int) (l2 : List Int) (A2 : Option Addr) (n2 c2 : Nat) : Prop where
  blk : Blk W g 41 #[.int .i64 s1, .slice A1 n1 c1, .int .i64 s2, .slice A2 n2 c2]
  a : Ar W s1 l1 A1 n1 c1
  b : Ar W s2 l2 A2 n2 c2
section
variable {W W' w : World} {g : Nat} {s1 s2 s3 s4 : Int} {l1 l2 l3 l4 : List Int} {A1 A2 A3 A4 : Option Addr} {n1 d1 n2 d2 n3 d3 n4 d4 : Nat}
theorem Af.below (h : Af W g s1 l1 A1 n1 d1 s2 l2 A2 n2 d2) (hb : Below W.heap.size W W') : Af W' g s1 l1 A1 n1 d1 s2 l2 A2 n2 d2 := ⟨h.blk.below hb h.blk.lt, h.a.later hb, h.b.later hb⟩
theorem Af.c0 (h : Af W g s1 l1 A1 n1 d1 s2 l2 A2 n2 d2) : W.cell? ⟨g, 0, none⟩ = some (.int .i64 s1) := h.blk.cell 0
theorem Af.c1 (h : Af W g s1 l1 A1 n1 d1 s2 l2 A2 n2 d2) : W.cell? ⟨g, 1, none⟩ = some (.slice A1 n1 d1) := h.blk.cell 1
theorem Af.c2 (h : Af W g s1 l1 A1 n1 d1 s2 l2 A2 n2 d2) : W.cell? ⟨g, 2, none⟩ = some (.int .i64 s2) := h.blk.cell 2
theorem Af.c3 (h : Af W g s1 l1 A1 n1 d1 s2 l2 A2 n2 d2) : W.cell? ⟨g, 3, none⟩ = some (.slice A2 n2 d2) := h.blk.cell 3
/-- If it is right, it reads as a rational number. -/
theorem Af.bf (h : Af W g s1 l1 A1 n1 d1 s2 l2 A2 n2 d2) (hr : RF s1 l1 s2 l2) :
    ∃ x : Rat, Bf 41 W g s1 A1 n1 d1 s2 A2 n2 d2 x.num x.den ∧ s1 = sgn x.num ∧ Rb x 60 60 ∧ ∀ k : Nat, (n1 ≤ k ∧ n2 ≤ k) → Rb x k k := by
  obtain ⟨x, h1, h2, h3, h4, h5, h6⟩ := hr.fv h.a h.b
  exact ⟨x, ⟨h.blk, h1⟩, h2, ⟨h3, h4⟩, fun k hk => ⟨h5 k hk.1, h6 k hk.2⟩⟩
end

end Go.Proofs.YtgpmmpajnfbecaaGreat

namespace Go.Proofs.YtgpmmpajnfbecaaGreat
open Go.RowKit

set_option maxRecDepth 100000 in
set_option maxHeartbeats 8000000 in
theorem fof_any (p q : Int) (w : World) (hp : isI p) (hq : isI q) : Calls Tryz.prog 45 #[.int .i64 p, .int .i64 q] w (NewP p q w) := by
  have H1 := Lib.hid hp; clear hp
  have H2 := Lib.hid hq; clear hq
  unfold NewP
  obtain ⟨E, hE⟩ : ∃ E, newE q = E := ⟨_, rfl⟩
  obtain ⟨P, hP⟩ : ∃ E, newN p q = E := ⟨_, rfl⟩
  obtain ⟨Q, hQ⟩ : ∃ E, newD p q = E := ⟨_, rfl⟩
  rw [hE, hP, hQ]
  have HE := Lib.hid hE; clear hE
  have HP := Lib.hid hP; clear hP
  have HQ := Lib.hid hQ; clear hQ
  go_enter Tryz.func45, Tryz.ntmps45
  go_wp2_with fail
  obtain ⟨W0, hW⟩ : ∃ W, W = w.alloc (.cells #[.int .i64 0, .slice none 0 0, .int .i64 0, .slice none 0 0] 41) := ⟨_, rfl⟩
  have hT : Below w.heap.size w W0 := by rw [hW]; exact (Below.refl _ _).alloc (Nat.le_refl _) _
  have kR : Bz W0 w.heap.size (.int .i64 0) (.slice none 0 0) (.int .i64 0) (.slice none 0 0) := ⟨by rw [hW]; exact Blk.new _ _ _⟩
  rw [← hW]
  clear hW
  (with_reducible refine (of_any _ _ H1.out.lo H1.out.hi).mono ?_)
  rintro e u1 ⟨r1, rfl, hr1, hb1⟩
  have hT := hT.trans (hb1.mono hT.size)
  have kR := kR.below hb1
  obtain ⟨s1, A1, n1, c1, rfl⟩ := hr1.form
  go_wp2_with fail
  (with_reducible refine (of_any _ _ H2.out.lo H2.out.hi).mono ?_)
  rintro e u2 ⟨r2, rfl, hr2, hb2⟩
  have hT := hT.trans (hb2.mono hT.size)
  have kR := kR.below hb2
  have hv1 := hr1.bv.later hb2
  obtain ⟨s2, A2, n2, c2, rfl⟩ := hr2.form
  go_wp2_with fail
  have hlt := kR.blk.lt
  (with_reducible refine (new_any _ _ _ _ _ _ _ _ _ _ _ hv1 hr2.bv H1.out.lt H2.out.lt).mono ?_)
  rintro e u3 ⟨rr, rfl, hrr, hb9⟩
  have hT := hT.trans (hb9.mono hT.size)
  have kR := kR.below hb9
  clear hr1 hr2 hv1
  rw [HP.out, HQ.out] at hrr
  rw [HE.out]
  obtain ⟨t1, C1, m1, e1, t2, C2, m2, e2, rfl, g1, g2⟩ := hrr
  have gR : w.heap.size ≤ w.heap.size := Nat.le_refl _
  have r0 := kR.blk.cell 0
  have r1 := kR.blk.cell 1
  have r2 := kR.blk.cell 2
  have r3 := kR.blk.cell 3
  have q0' := kR.blk.frozen 0
  have q1' := kR.blk.frozen 1
  have q2' := kR.blk.frozen 2
  have q3' := kR.blk.frozen 3
  simp at r0 r1 r2 r3
  have hbs := kR.blk.set4 (.int .i64 t1) (.slice C1 m1 e1) (.int .i64 t2) (.slice C2 m2 e2)
  have x0 := hbs.cell 0
  have x1 := hbs.cell 1
  have x2 := hbs.cell 2
  have x3 := hbs.cell 3
  simp at x0 x1 x2 x3
  go_wp2_with fail
  refine bodyPost_ret (v := .tuple #[.agg #[.int .i64 t1, .slice C1 m1 e1, .int .i64 t2, .slice C2 m2 e2], .int .i64 E]) (by simp [results, Tryz.results45, go_sem, x0, x1, x2, x3]) rfl ?_
  exact ⟨_, rfl, FO.mk2 ((g1.far4 hlt _ _ _ _).mono (by omega)) ((g2.far4 hlt _ _ _ _).mono (by omega)), below_st4 hT gR _ _ _ _⟩

end Go.Proofs.YtgpmmpajnfbecaaGreat

namespace Go.Proofs.YtgpmmpajnfbecaaGreat
open Go.RowKit

end Go.Proofs.YtgpmmpajnfbecaaGreat
