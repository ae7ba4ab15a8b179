/- Walks: the law's head. Walks: Add, Sub. What the law on ints needs in plain. -/
import Derived.Test.YtgpmmpajnfbecaaGreatXak
import Derived.Test.YtgpmmpajnfbecaaGreatXai

namespace Go.Proofs.YtgpmmpajnfbecaaGreat
open Go.RowKit

end Go.Proofs.YtgpmmpajnfbecaaGreat

namespace Go.Proofs.YtgpmmpajnfbecaaGreat
open Go.RowKit

set_option maxRecDepth 100000 in
set_option maxHeartbeats 1000000 in
theorem add_any (x y : Int) (vx vy : Value) (w : World) (hx : BV w w.heap.size vx x) (hy : BV w w.heap.size vy y) (hx6 : ab x < pw 60) (hy6 : ab y < pw 60) :
    Calls Tryz.prog 85 #[vx, vy] w (ResP (x + y) w) := by
  have hsum := fun (w' : World) (hb : Below w.heap.size w w') => sum_any x y y vx vy w' ((hx.below hb).more hb.size) ((hy.below hb).more hb.size) hx6 hy6 rfl
  obtain ⟨A1, c1, rfl, -, -, -⟩ := hx
  obtain ⟨A2, c2, rfl, -, -, -⟩ := hy
  obtain ⟨n1, hn1⟩ : ∃ n, (D (ab x)).length = n := ⟨_, rfl⟩
  obtain ⟨n2, hn2⟩ : ∃ n, (D (ab y)).length = n := ⟨_, rfl⟩
  have hs2 := sgn_bd y
  rw [hn1, hn2] at hsum
  rw [hn1, hn2]
  obtain ⟨s1, hs1e⟩ : ∃ s, sgn x = s := ⟨_, rfl⟩
  obtain ⟨s2, hs2e⟩ : ∃ s, sgn y = s := ⟨_, rfl⟩
  rw [hs1e, hs2e] at hsum
  rw [hs2e] at hs2
  rw [hs1e, hs2e]
  have HS := Lib.hid hsum; clear hsum hn1 hn2 hs1e hs2e
  go_enter Tryz.func85, Tryz.ntmps85
  go_wp2_with fail
  obtain ⟨w1, hw1, hb1, k1, k2, k3, hsz⟩ := boxes3 w #[.int .i64 s1, .slice A1 n1 c1] #[.int .i64 s2, .slice A2 n2 c2] #[.int .i64 0, .slice none 0 0]
  rw [← hw1]
  clear hw1
  (with_reducible refine (HS.out w1 hb1).mono ?_)
  rintro e w2 ⟨r, rfl, hr, hb2⟩
  have HR := Lib.hid hr
  obtain ⟨s', A', n', c', rfl⟩ := hr.form
  clear hr
  obtain ⟨g, hg⟩ : ∃ g, w.heap.size + 1 + 1 = g := ⟨_, rfl⟩
  rw [hg] at k3 ⊢
  have hgw : w.heap.size ≤ g ∧ g < w1.heap.size := by have := k3.lt; omega
  clear hg
  have hbk := k3.below hb2 hgw.2
  have q0 : w2.cell? ⟨g, 0, none⟩ = some (.int .i64 0) := hbk.cell 0
  have q1 : w2.cell? ⟨g, 1, none⟩ = some (.slice none 0 0) := hbk.cell 1
  have f0 := hbk.frozen 0
  have f1 := hbk.frozen 1
  have hb02 := hb1.trans (hb2.mono hb1.size)
  have hB6 := (hb02.setCell (p := ⟨g, 0, none⟩) hgw.1 (.int .i64 s')).setCell (p := ⟨g, 1, none⟩) hgw.1 (.slice A' n' c')
  have hbs := hbk.set2 (.int .i64 s') (.slice A' n' c')
  have hd0 := hbs.cell 0
  have hd1 := hbs.cell 1
  simp at hd0 hd1
  go_wp2_with fail
  refine bodyPost_ret (v := .tuple #[.agg #[.int .i64 s', .slice A' n' c'], .int .i64 (fite (x + y))]) (by simp [results, Tryz.results85, go_sem, hd0, hd1]) rfl ?_
  exact ⟨_, rfl, (HR.out.far2 (g := g) hgw.2 (.int .i64 s') (.slice A' n' c')).mono hb1.size, hB6⟩

set_option maxRecDepth 100000 in
set_option maxHeartbeats 1000000 in
theorem sub_any (x y : Int) (vx vy : Value) (w : World) (hx : BV w w.heap.size vx x) (hy : BV w w.heap.size vy y) (hx6 : ab x < pw 60) (hy6 : ab y < pw 60) :
    Calls Tryz.prog 44 #[vx, vy] w (ResP (x - y) w) := by
  have hsum := fun (w' : World) (hb : Below w.heap.size w w') => sum_any x y (-y) vx vy w' ((hx.below hb).more hb.size) ((hy.below hb).more hb.size) hx6 hy6 (ab_neg y).symm
  rw [sgn_neg, ← Int.sub_eq_add_neg] at hsum
  obtain ⟨A1, c1, rfl, -, -, -⟩ := hx
  obtain ⟨A2, c2, rfl, -, -, -⟩ := hy
  obtain ⟨n1, hn1⟩ : ∃ n, (D (ab x)).length = n := ⟨_, rfl⟩
  obtain ⟨n2, hn2⟩ : ∃ n, (D (ab y)).length = n := ⟨_, rfl⟩
  have hs2 := sgn_bd y
  rw [hn1, hn2] at hsum
  rw [hn1, hn2]
  obtain ⟨s1, hs1e⟩ : ∃ s, sgn x = s := ⟨_, rfl⟩
  obtain ⟨s2, hs2e⟩ : ∃ s, sgn y = s := ⟨_, rfl⟩
  rw [hs1e, hs2e] at hsum
  rw [hs2e] at hs2
  rw [hs1e, hs2e]
  have HS := Lib.hid hsum; clear hsum hn1 hn2 hs1e hs2e
  go_enter Tryz.func44, Tryz.ntmps44
  go_wp2_with fail
  obtain ⟨w1, hw1, hb1, k1, k2, k3, hsz⟩ := boxes3 w #[.int .i64 s1, .slice A1 n1 c1] #[.int .i64 s2, .slice A2 n2 c2] #[.int .i64 0, .slice none 0 0]
  rw [← hw1]
  clear hw1
  (with_reducible refine (HS.out w1 hb1).mono ?_)
  rintro e w2 ⟨r, rfl, hr, hb2⟩
  have HR := Lib.hid hr
  obtain ⟨s', A', n', c', rfl⟩ := hr.form
  clear hr
  obtain ⟨g, hg⟩ : ∃ g, w.heap.size + 1 + 1 = g := ⟨_, rfl⟩
  rw [hg] at k3 ⊢
  have hgw : w.heap.size ≤ g ∧ g < w1.heap.size := by have := k3.lt; omega
  clear hg
  have hbk := k3.below hb2 hgw.2
  have q0 : w2.cell? ⟨g, 0, none⟩ = some (.int .i64 0) := hbk.cell 0
  have q1 : w2.cell? ⟨g, 1, none⟩ = some (.slice none 0 0) := hbk.cell 1
  have f0 := hbk.frozen 0
  have f1 := hbk.frozen 1
  have hb02 := hb1.trans (hb2.mono hb1.size)
  have hB6 := (hb02.setCell (p := ⟨g, 0, none⟩) hgw.1 (.int .i64 s')).setCell (p := ⟨g, 1, none⟩) hgw.1 (.slice A' n' c')
  have hbs := hbk.set2 (.int .i64 s') (.slice A' n' c')
  have hd0 := hbs.cell 0
  have hd1 := hbs.cell 1
  simp at hd0 hd1
  go_wp2_with fail
  refine bodyPost_ret (v := .tuple #[.agg #[.int .i64 s', .slice A' n' c'], .int .i64 (fite (x - y))]) (by simp [results, Tryz.results44, go_sem, hd0, hd1]) rfl ?_
  exact ⟨_, rfl, (HR.out.far2 (g := g) hgw.2 (.int .i64 s') (.slice A' n' c')).mono hb1.size, hB6⟩

end Go.Proofs.YtgpmmpajnfbecaaGreat

namespace Go.Proofs.YtgpmmpajnfbecaaGreat
open Go.RowKit

theorem isI.lo {z : Int} (h : isI z) : -9223372036854775808 ≤ z := h.1
theorem isI.hi {z : Int} (h : isI z) : z ≤ 9223372036854775807 := h.2
theorem isI.lt {z : Int} (h : isI z) : ab z < pw 60 := lt60 (by unfold isI at h; unfold ab; omega)
theorem isI.add {a b : Int} (ha : isI a) (hb : isI b) : ab (a + b) < pw 60 := lt60 (by unfold isI at *; unfold ab; omega)
end Go.Proofs.YtgpmmpajnfbecaaGreat
