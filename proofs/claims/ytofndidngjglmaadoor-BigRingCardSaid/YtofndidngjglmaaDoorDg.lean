/- Walks: the law's helper: a quotient and a remainder are two ints. -/
import Derived.Test.YtofndidngjglmaaDoorDf
import Derived.Test.YtofndidngjglmaaDoorW
import Derived.Test.YtofndidngjglmaaDoorT
namespace Go.Proofs.YtofndidngjglmaaDoor
open Go.RowKit

set_option maxRecDepth 100000 in
set_option maxHeartbeats 2000000 in
theorem pair_yes (x y : Int) (vx vy : Value) (w : World) (hx : BV w w.heap.size vx x) (hy : BV w w.heap.size vy y) (hx6 : isI x) (hy6 : isI y) :
    Calls Tryd.prog 25 #[vx, vy, .int .i64 0, .int .i64 x, .int .i64 y] w fun e w' => e = .returned (.bool true) ∧ Below w.heap.size w w' := by
  obtain ⟨A1, c1, rfl, hc1, hm1, hI1⟩ := hx
  obtain ⟨A2, c2, rfl, hc2, hm2, hI2⟩ := hy
  have hsx := fun (w' : World) (hb : Below w.heap.size w w') r (h : BV w' w'.heap.size r x) => same_any x x _ r w' (BV.later ⟨A1, c1, rfl, hc1, hm1, hI1⟩ hb) h
  have hsy := fun (w' : World) (hb : Below w.heap.size w w') r (h : BV w' w'.heap.size r y) => same_any y y _ r w' (BV.later ⟨A2, c2, rfl, hc2, hm2, hI2⟩ hb) h
  simp only [decide_true] at hsx hsy
  obtain ⟨s1, hs1⟩ : ∃ s, sgn x = s := ⟨_, rfl⟩
  obtain ⟨s2, hs2⟩ : ∃ s, sgn y = s := ⟨_, rfl⟩
  obtain ⟨n1, hn1⟩ : ∃ n, (D (ab x)).length = n := ⟨_, rfl⟩
  obtain ⟨n2, hn2⟩ : ∃ n, (D (ab y)).length = n := ⟨_, rfl⟩
  rw [hs1, hn1] at hsx ⊢
  rw [hs2, hn2] at hsy ⊢
  have hox := fun w' => of_any x w' hx6.1 hx6.2
  have hoy := fun w' => of_any y w' hy6.1 hy6.2
  have HSX := Lib.hid hsx; clear hsx
  have HSY := Lib.hid hsy; clear hsy
  have HOX := Lib.hid hox; clear hox
  have HOY := Lib.hid hoy; clear hoy
  clear hs1 hs2 hn1 hn2 hc1 hm1 hI1 hc2 hm2 hI2 hx6 hy6
  go_enter Tryd.func25, Tryd.ntmps25
  go_wp2_with fail
  obtain ⟨w1, hw1, hb1, k1, k2, hsz⟩ := boxes2 w #[.int .i64 s1, .slice A1 n1 c1] #[.int .i64 s2, .slice A2 n2 c2]
  rw [← hw1]
  clear hw1
  have e0 : ∀ W' : World, Below w1.heap.size w1 W' → W'.cell? ⟨w.heap.size, 0, none⟩ = some (.int .i64 s1) ∧ W'.cell? ⟨w.heap.size, 1, none⟩ = some (.slice A1 n1 c1) ∧ W'.cell? ⟨w.heap.size + 1, 0, none⟩ = some (.int .i64 s2) ∧ W'.cell? ⟨w.heap.size + 1, 1, none⟩ = some (.slice A2 n2 c2) ∧ Below w1.heap.size w1 W' := fun W' hW =>
    ⟨(k1.below hW k1.lt).cell 0, (k1.below hW k1.lt).cell 1, (k2.below hW k2.lt).cell 0, (k2.below hW k2.lt).cell 1, hW⟩
  have E0 := Lib.hid e0; clear e0
  have hB00 : Below w1.heap.size w1 w1.drew := (Below.refl _ _).drew
  clear k1 k2 hsz
  have hs1 := hb1.size
  go_region_held3 (fun W' => W'.cell? ⟨w.heap.size, 0, none⟩ = some (.int .i64 s1) ∧ W'.cell? ⟨w.heap.size, 1, none⟩ = some (.slice A1 n1 c1) ∧ W'.cell? ⟨w.heap.size + 1, 0, none⟩ = some (.int .i64 s2) ∧ W'.cell? ⟨w.heap.size + 1, 1, none⟩ = some (.slice A2 n2 c2) ∧ Below w1.heap.size w1 W')
    (first | exact E0.out _ (by assumption) | exact E0.out _ ⟨rfl, rfl, rfl, Nat.le_refl _, fun _ _ => rfl⟩)
    (first
      | (go_at_call 16; have _h := hB5; refine (HOY.out _).mono ?_; rintro e w6 ⟨r2, rfl, hr2, hb6⟩; have hB6 : Below w1.heap.size w1 w6 := hB5.trans (hb6.mono hB5.size))
      | (go_at_call 16; refine (HOX.out _).mono ?_; rintro e w4 ⟨r1, rfl, hr1, hb4⟩; have hB4 : Below w1.heap.size w1 w4 := ⟨hb4.os, hb4.tape, hb4.output, hb4.size, hb4.block⟩)
      | (go_at_call 18; have _h := hB6; refine (HSY.out _ (hb1.trans (hB6.mono hs1)) _ hr2.bv).mono ?_; rintro e w7 ⟨rfl, hb7⟩; have hB7 : Below w1.heap.size w1 w7 := hB6.trans (hb7.mono hB6.size))
      | (go_at_call 18; refine (HSX.out _ (hb1.trans (hB4.mono hs1)) _ hr1.bv).mono ?_; rintro e w5 ⟨rfl, hb5⟩; have hB5 : Below w1.heap.size w1 w5 := hB4.trans (hb5.mono hB4.size)))
  go_wp2_with fail
  go_ret
  exact ⟨rfl, hb1.trans (hB7.mono hs1)⟩

end Go.Proofs.YtofndidngjglmaaDoor
