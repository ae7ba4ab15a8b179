/- Walks: Div by zero. -/
import Derived.Test.YtofndidngjglmaaDoorY
namespace Go.Proofs.YtofndidngjglmaaDoor
open Go.RowKit

set_option maxRecDepth 100000 in
set_option maxHeartbeats 4000000 in
theorem div_zero (x : Int) (vx vy : Value) (w : World) (hx : BV w w.heap.size vx x) (hy : BV w w.heap.size vy 0) (hx6 : ab x < pw 60) :
    Calls Tryd.prog 19 #[vx, vy] w fun e w' => e = .returned (.tuple #[.agg #[.int .i64 0, .slice none 0 0], .agg #[.int .i64 0, .slice none 0 0], .int .i64 15]) ∧ Below w.heap.size w w' := by
  obtain ⟨A1, c1, rfl, hc1, hm1, hI1⟩ := hx
  obtain ⟨A2, c2, rfl, hc2, hm2, hI2⟩ := hy
  have hl1 := len60 hx6
  have h0 : ab (0 : Int) < pw 60 := by rw [ab_zero]; exact pw_pos 60
  have hl2 := len60 h0
  have hr1 := fun (w' : World) (hb : Below w.heap.size w w') => right_any (sgn x) (D (ab x)) A1 c1 w' ((hI1.below hb).more hb.size) (by omega) true (by simp [rightP_of hx6])
  have hr2 := fun (w' : World) (hb : Below w.heap.size w w') => right_any (sgn 0) (D (ab 0)) A2 c2 w' ((hI2.below hb).more hb.size) (by omega) true (by simp [rightP_of h0])
  rw [sgn_zero] at hr2 ⊢
  obtain ⟨n1, hn1⟩ : ∃ n, (D (ab x)).length = n := ⟨_, rfl⟩
  obtain ⟨n2, hn2⟩ : ∃ n, (D (ab (0 : Int))).length = n := ⟨_, rfl⟩
  obtain ⟨s1, hs1e⟩ : ∃ s, sgn x = s := ⟨_, rfl⟩
  rw [hs1e, hn1] at hr1 ⊢
  rw [hn2] at hr2 ⊢
  have HR1 := Lib.hid hr1; clear hr1
  have HR2 := Lib.hid hr2; clear hr2
  clear hn1 hn2 hs1e hI1 hI2 hx6 hc1 hc2 hl1 hl2 h0 hm1 hm2
  go_enter Tryd.func19, Tryd.ntmps19
  go_wp2_with fail
  obtain ⟨w1, hw1, hb1, k1, k2, k3, k4, hsz⟩ := boxes4 w #[.int .i64 s1, .slice A1 n1 c1] #[.int .i64 0, .slice A2 n2 c2] #[.int .i64 0, .slice none 0 0] #[.int .i64 0, .slice none 0 0]
  rw [← hw1]
  clear hw1
  (with_reducible refine (HR1.out w1 hb1).mono ?_)
  rintro e w2 ⟨rfl, hb2⟩
  have k2 := k2.below hb2 k2.lt
  have k3 := k3.below hb2 k3.lt
  have k4 := k4.below hb2 k4.lt
  have hb2 := hb1.trans (hb2.mono hb1.size)
  have j1 : w2.cell? ⟨w.heap.size + 1, 0, none⟩ = some (.int .i64 0) := k2.cell 0
  have j2 : w2.cell? ⟨w.heap.size + 1, 1, none⟩ = some (.slice A2 n2 c2) := k2.cell 1
  go_wp2_with fail
  (with_reducible refine (HR2.out w2 hb2).mono ?_)
  rintro e w3 ⟨rfl, hb3⟩
  clear j1 j2
  have k2 := k2.below hb3 k2.lt
  have k3 := k3.below hb3 k3.lt
  have k4 := k4.below hb3 k4.lt
  have hb3 := hb2.trans (hb3.mono hb2.size)
  clear hb1 hb2 HR1 HR2 hsz
  have j0 : w3.cell? ⟨w.heap.size + 1, 0, none⟩ = some (.int .i64 0) := k2.cell 0
  obtain ⟨g, hg⟩ : ∃ g, w.heap.size + 1 + 1 = g := ⟨_, rfl⟩
  have hgw : w.heap.size ≤ g := by omega
  rw [hg] at k3 k4 ⊢
  clear hg
  have c30 : w3.cell? ⟨g, 0, none⟩ = some (.int .i64 0) := k3.cell 0
  have c31 : w3.cell? ⟨g, 1, none⟩ = some (.slice none 0 0) := k3.cell 1
  have c40 : w3.cell? ⟨g + 1, 0, none⟩ = some (.int .i64 0) := k4.cell 0
  have c41 : w3.cell? ⟨g + 1, 1, none⟩ = some (.slice none 0 0) := k4.cell 1
  have f30 := k3.frozen 0
  have f31 := k3.frozen 1
  have f40 := k4.frozen 0
  have f41 := k4.frozen 1
  have hbs := k3.set2 (.int .i64 0) (.slice none 0 0)
  have hbs' := (hbs.far (p := ⟨g + 1, 0, none⟩) (by simp) (.int .i64 0)).far (p := ⟨g + 1, 1, none⟩) (by simp) (.slice none 0 0)
  have hbt := ((k4.far (p := ⟨g, 0, none⟩) (by simp) (.int .i64 0)).far (p := ⟨g, 1, none⟩) (by simp) (.slice none 0 0)).set2 (.int .i64 0) (.slice none 0 0)
  have d0 := hbs'.cell 0
  have d1 := hbs'.cell 1
  have d2 := hbt.cell 0
  have d3 := hbt.cell 1
  simp at d0 d1 d2 d3
  have hb4 := (((hb3.setCell (p := ⟨g, 0, none⟩) hgw (.int .i64 0)).setCell (p := ⟨g, 1, none⟩) hgw (.slice none 0 0)).setCell (p := ⟨g + 1, 0, none⟩) (by show w.heap.size ≤ g + 1; omega) (.int .i64 0)).setCell (p := ⟨g + 1, 1, none⟩) (by show w.heap.size ≤ g + 1; omega) (.slice none 0 0)
  go_wp2_with fail
  refine bodyPost_ret (v := .tuple #[.agg #[.int .i64 0, .slice none 0 0], .agg #[.int .i64 0, .slice none 0 0], .int .i64 15]) (by simp [results, Tryd.results19, go_sem, d0, d1, d2, d3]) rfl ?_
  exact ⟨rfl, hb4⟩

end Go.Proofs.YtofndidngjglmaaDoor
