/- Walks: the reference's Div by zero; Div of both where an argument is not right. Printed by a program (rdiv4.py) from Fc and Yb. Walks: the reference's Div, the signs the same or no remainder. Printed by a program (rdivs.py). Walks: the reference's Div, the signs different and a remainder; Div of right arguments. Printed by a program (rdivd.py). Walks: the reference's Int of right arguments. Walks: the reference's Read. Printed by a program (rread.py). Walks: Same of both, whatever the arguments. Printed by a program (samebad.py). -/
import Derived.Test.YtlbjaimgoiimgaaXam
import Derived.Test.YtlbjaimgoiimgaaXag
import Derived.Deep.RegionHeld3
import Derived.Test.YtlbjaimgoiimgaaXae
import Derived.Deep.QuietTactic
import Derived.Test.YtlbjaimgoiimgaaXad
import Derived.Deep.Cut

namespace Go.Proofs.Ytlbjaimgoiimgaa
open Go.RowKit

set_option maxRecDepth 100000 in
set_option maxHeartbeats 4000000 in
theorem rdiv_zero (x : Int) (vx vy : Value) (w : World) (hx : BV w w.heap.size vx x) (hy : BV w w.heap.size vy 0) (hx6 : ab x < pw 60) :
    Calls Try.prog 64 #[vx, vy] w fun e w' => e = .returned (.tuple #[.agg #[.int .i64 0, .slice none 0 0], .agg #[.int .i64 0, .slice none 0 0], .int .i64 15]) ∧ Below w.heap.size w w' := by
  obtain ⟨A1, c1, rfl, hc1, hm1, hI1⟩ := hx
  obtain ⟨A2, c2, rfl, hc2, hm2, hI2⟩ := hy
  have hl1 := len60 hx6
  have h0 : ab (0 : Int) < pw 60 := by rw [ab_zero]; exact pw_pos 60
  have hl2 := len60 h0
  have hr1 := fun (w' : World) (hb : Below w.heap.size w w') => rRight_any (sgn x) (D (ab x)) A1 _ c1 w' ⟨rfl, (hI1.below hb).more hb.size, hc1, hm1⟩ true (by simp [rightP_of hx6])
  have hr2 := fun (w' : World) (hb : Below w.heap.size w w') => rRight_any (sgn 0) (D (ab 0)) A2 _ c2 w' ⟨rfl, (hI2.below hb).more hb.size, hc2, hm2⟩ true (by simp [rightP_of h0])
  rw [sgn_zero] at hr2 ⊢
  obtain ⟨n1, hn1⟩ : ∃ n, (D (ab x)).length = n := ⟨_, rfl⟩
  obtain ⟨n2, hn2⟩ : ∃ n, (D (ab (0 : Int))).length = n := ⟨_, rfl⟩
  obtain ⟨s1, hs1e⟩ : ∃ s, sgn x = s := ⟨_, rfl⟩
  rw [hs1e, hn1] at hr1 ⊢
  rw [hn2] at hr2 ⊢
  have HR1 := Lib.hid hr1; clear hr1
  have HR2 := Lib.hid hr2; clear hr2
  clear hn1 hn2 hs1e hI1 hI2 hx6 hc1 hc2 hl1 hl2 h0 hm1 hm2
  go_enter Try.func64, Try.ntmps64
  go_wp2_with fail
  obtain ⟨w1, hw1, hb1, k1, k2, k3, k4, hsz⟩ := boxes4 w #[.int .i64 s1, .slice A1 n1 c1] #[.int .i64 0, .slice A2 n2 c2] #[.int .i64 0, .slice none 0 0] #[.int .i64 0, .slice none 0 0]
  rw [← hw1]
  clear hw1
  (with_reducible refine (HR1.out w1 hb1).mono ?_)
  rintro e w2 ⟨rfl, hb2⟩
  have k2 := k2.below hb2 k2.lt
  have k3 := k3.below hb2 k3.lt
  have k4 := k4.below hb2 k4.lt
  have hb2 := hb1.trans (hb2.mono hb1.size)
  have j1 : w2.cell? ⟨w.heap.size + 1, 0, none⟩ = some (.int .i64 0) := k2.cell 0
  have j2 : w2.cell? ⟨w.heap.size + 1, 1, none⟩ = some (.slice A2 n2 c2) := k2.cell 1
  go_wp2_with fail
  (with_reducible refine (HR2.out w2 hb2).mono ?_)
  rintro e w3 ⟨rfl, hb3⟩
  clear j1 j2
  have k2 := k2.below hb3 k2.lt
  have k3 := k3.below hb3 k3.lt
  have k4 := k4.below hb3 k4.lt
  have hb3 := hb2.trans (hb3.mono hb2.size)
  clear hb1 hb2 HR1 HR2 hsz
  have j0 : w3.cell? ⟨w.heap.size + 1, 0, none⟩ = some (.int .i64 0) := k2.cell 0
  obtain ⟨g, hg⟩ : ∃ g, w.heap.size + 1 + 1 = g := ⟨_, rfl⟩
  have hgw : w.heap.size ≤ g := by omega
  rw [hg] at k3 k4 ⊢
  clear hg
  have c30 : w3.cell? ⟨g, 0, none⟩ = some (.int .i64 0) := k3.cell 0
  have c31 : w3.cell? ⟨g, 1, none⟩ = some (.slice none 0 0) := k3.cell 1
  have c40 : w3.cell? ⟨g + 1, 0, none⟩ = some (.int .i64 0) := k4.cell 0
  have c41 : w3.cell? ⟨g + 1, 1, none⟩ = some (.slice none 0 0) := k4.cell 1
  have f30 := k3.frozen 0
  have f31 := k3.frozen 1
  have f40 := k4.frozen 0
  have f41 := k4.frozen 1
  have hbs := k3.set2 (.int .i64 0) (.slice none 0 0)
  have hbs' := (hbs.far (p := ⟨g + 1, 0, none⟩) (by simp) (.int .i64 0)).far (p := ⟨g + 1, 1, none⟩) (by simp) (.slice none 0 0)
  have hbt := ((k4.far (p := ⟨g, 0, none⟩) (by simp) (.int .i64 0)).far (p := ⟨g, 1, none⟩) (by simp) (.slice none 0 0)).set2 (.int .i64 0) (.slice none 0 0)
  have d0 := hbs'.cell 0
  have d1 := hbs'.cell 1
  have d2 := hbt.cell 0
  have d3 := hbt.cell 1
  simp at d0 d1 d2 d3
  have hb4 := (((hb3.setCell (p := ⟨g, 0, none⟩) hgw (.int .i64 0)).setCell (p := ⟨g, 1, none⟩) hgw (.slice none 0 0)).setCell (p := ⟨g + 1, 0, none⟩) (by show w.heap.size ≤ g + 1; omega) (.int .i64 0)).setCell (p := ⟨g + 1, 1, none⟩) (by show w.heap.size ≤ g + 1; omega) (.slice none 0 0)
  go_wp2_with fail
  refine bodyPost_ret (v := .tuple #[.agg #[.int .i64 0, .slice none 0 0], .agg #[.int .i64 0, .slice none 0 0], .int .i64 15]) (by simp [results, Try.results64, go_sem, d0, d1, d2, d3]) rfl ?_
  exact ⟨rfl, hb4⟩

set_option maxRecDepth 100000 in
set_option maxHeartbeats 2000000 in
theorem div_bad {s1 s2 : Int} {l1 l2 : List Int} {A1 A2 : Option Addr} {n1 c1 n2 c2 : Nat} {w : World} (h1 : Ar w s1 l1 A1 n1 c1) (h2 : Ar w s2 l2 A2 n2 c2) (hb : ¬ (RightP s1 l1 ∧ RightP s2 l2)) :
    Calls Try.prog 75 #[.agg #[.int .i64 s1, .slice A1 n1 c1], .agg #[.int .i64 s2, .slice A2 n2 c2]] w fun e w' => e = .returned (.tuple #[.agg #[.int .i64 0, .slice none 0 0], .agg #[.int .i64 0, .slice none 0 0], .int .i64 1]) ∧ Below w.heap.size w w' := by
  have hH := fun (w' : World) (h : Below w.heap.size w w') (b : Bool) => (h1.later h).right b
  have hG := fun (w' : World) (h : Below w.heap.size w w') (b : Bool) => (h2.later h).right b
  have HH := Lib.hid hH; clear hH
  have HG := Lib.hid hG; clear hG
  have HB := Lib.hid hb; clear hb
  by_cases hr : RightP s1 l1
  · have hn : ¬ RightP s2 l2 := fun h => HB.out ⟨hr, h⟩
    have HR := Lib.hid hr; clear hr
    have HN := Lib.hid hn; clear hn
    clear h1 h2
    go_enter Try.func75, Try.ntmps75
    go_wp2_with fail
    obtain ⟨w1, hw1, hb1, k1, k2, k3, k4, _⟩ := boxes4 w #[.int .i64 s1, .slice A1 n1 c1] #[.int .i64 s2, .slice A2 n2 c2] #[.int .i64 0, .slice none 0 0] #[.int .i64 0, .slice none 0 0]
    rw [← hw1]
    clear hw1
    (with_reducible refine (HH.out w1 hb1 true (by simp [HR.out])).mono ?_)
    rintro e w2 ⟨rfl, hb2⟩
    have k2 := k2.below hb2 k2.lt
    have k3 := k3.below hb2 k3.lt
    have k4 := k4.below hb2 k4.lt
    have hb2 := hb1.trans (hb2.mono hb1.size)
    have j1 : w2.cell? ⟨w.heap.size + 1, 0, none⟩ = some (.int .i64 s2) := k2.cell 0
    have j2 : w2.cell? ⟨w.heap.size + 1, 1, none⟩ = some (.slice A2 n2 c2) := k2.cell 1
    go_wp2_with fail
    clear j1 j2
    (with_reducible refine (HG.out w2 hb2 false (by simp [HN.out])).mono ?_)
    rintro e w3 ⟨rfl, hb3⟩
    have k3 := k3.below hb3 k3.lt
    have k4 := k4.below hb3 k4.lt
    have hb3 := hb2.trans (hb3.mono hb2.size)
    clear k1 k2 hb1 hb2 HH HG
    obtain ⟨g, hg⟩ : ∃ g, w.heap.size + 1 + 1 = g := ⟨_, rfl⟩
    have hgw : w.heap.size ≤ g := by omega
    rw [hg] at k3 k4 ⊢
    clear hg
    have c30 : w3.cell? ⟨g, 0, none⟩ = some (.int .i64 0) := k3.cell 0
    have c31 : w3.cell? ⟨g, 1, none⟩ = some (.slice none 0 0) := k3.cell 1
    have c40 : w3.cell? ⟨g + 1, 0, none⟩ = some (.int .i64 0) := k4.cell 0
    have c41 : w3.cell? ⟨g + 1, 1, none⟩ = some (.slice none 0 0) := k4.cell 1
    have f30 := k3.frozen 0
    have f31 := k3.frozen 1
    have f40 := k4.frozen 0
    have f41 := k4.frozen 1
    have hbs := k3.set2 (.int .i64 0) (.slice none 0 0)
    have hbs' := (hbs.far (p := ⟨g + 1, 0, none⟩) (by simp) (.int .i64 0)).far (p := ⟨g + 1, 1, none⟩) (by simp) (.slice none 0 0)
    have hbt := ((k4.far (p := ⟨g, 0, none⟩) (by simp) (.int .i64 0)).far (p := ⟨g, 1, none⟩) (by simp) (.slice none 0 0)).set2 (.int .i64 0) (.slice none 0 0)
    have d0 := hbs'.cell 0
    have d1 := hbs'.cell 1
    have d2 := hbt.cell 0
    have d3 := hbt.cell 1
    simp at d0 d1 d2 d3
    have hb4 := (((hb3.setCell (p := ⟨g, 0, none⟩) hgw (.int .i64 0)).setCell (p := ⟨g, 1, none⟩) hgw (.slice none 0 0)).setCell (p := ⟨g + 1, 0, none⟩) (by show w.heap.size ≤ g + 1; omega) (.int .i64 0)).setCell (p := ⟨g + 1, 1, none⟩) (by show w.heap.size ≤ g + 1; omega) (.slice none 0 0)
    go_wp2_with fail
    refine bodyPost_ret (v := .tuple #[.agg #[.int .i64 0, .slice none 0 0], .agg #[.int .i64 0, .slice none 0 0], .int .i64 1]) (by simp [results, Try.results75, go_sem, d0, d1, d2, d3]) rfl ?_
    exact ⟨rfl, hb4⟩
  · have HN := Lib.hid hr; clear hr
    clear h1 h2
    go_enter Try.func75, Try.ntmps75
    go_wp2_with fail
    obtain ⟨w1, hw1, hb1, k1, k2, k3, k4, _⟩ := boxes4 w #[.int .i64 s1, .slice A1 n1 c1] #[.int .i64 s2, .slice A2 n2 c2] #[.int .i64 0, .slice none 0 0] #[.int .i64 0, .slice none 0 0]
    rw [← hw1]
    clear hw1
    (with_reducible refine (HH.out w1 hb1 false (by simp [HN.out])).mono ?_)
    rintro e w2 ⟨rfl, hb2⟩
    have k3 := k3.below hb2 k3.lt
    have k4 := k4.below hb2 k4.lt
    have hb2 := hb1.trans (hb2.mono hb1.size)
    clear k1 k2 hb1 HH HG
    obtain ⟨g, hg⟩ : ∃ g, w.heap.size + 1 + 1 = g := ⟨_, rfl⟩
    have hgw : w.heap.size ≤ g := by omega
    rw [hg] at k3 k4 ⊢
    clear hg
    have c30 : w2.cell? ⟨g, 0, none⟩ = some (.int .i64 0) := k3.cell 0
    have c31 : w2.cell? ⟨g, 1, none⟩ = some (.slice none 0 0) := k3.cell 1
    have c40 : w2.cell? ⟨g + 1, 0, none⟩ = some (.int .i64 0) := k4.cell 0
    have c41 : w2.cell? ⟨g + 1, 1, none⟩ = some (.slice none 0 0) := k4.cell 1
    have f30 := k3.frozen 0
    have f31 := k3.frozen 1
    have f40 := k4.frozen 0
    have f41 := k4.frozen 1
    have hbs := k3.set2 (.int .i64 0) (.slice none 0 0)
    have hbs' := (hbs.far (p := ⟨g + 1, 0, none⟩) (by simp) (.int .i64 0)).far (p := ⟨g + 1, 1, none⟩) (by simp) (.slice none 0 0)
    have hbt := ((k4.far (p := ⟨g, 0, none⟩) (by simp) (.int .i64 0)).far (p := ⟨g, 1, none⟩) (by simp) (.slice none 0 0)).set2 (.int .i64 0) (.slice none 0 0)
    have d0 := hbs'.cell 0
    have d1 := hbs'.cell 1
    have d2 := hbt.cell 0
    have d3 := hbt.cell 1
    simp at d0 d1 d2 d3
    have hb4 := (((hb2.setCell (p := ⟨g, 0, none⟩) hgw (.int .i64 0)).setCell (p := ⟨g, 1, none⟩) hgw (.slice none 0 0)).setCell (p := ⟨g + 1, 0, none⟩) (by show w.heap.size ≤ g + 1; omega) (.int .i64 0)).setCell (p := ⟨g + 1, 1, none⟩) (by show w.heap.size ≤ g + 1; omega) (.slice none 0 0)
    go_wp2_with fail
    refine bodyPost_ret (v := .tuple #[.agg #[.int .i64 0, .slice none 0 0], .agg #[.int .i64 0, .slice none 0 0], .int .i64 1]) (by simp [results, Try.results75, go_sem, d0, d1, d2, d3]) rfl ?_
    exact ⟨rfl, hb4⟩

set_option maxRecDepth 100000 in
set_option maxHeartbeats 2000000 in
theorem rdiv_bad {s1 s2 : Int} {l1 l2 : List Int} {A1 A2 : Option Addr} {n1 c1 n2 c2 : Nat} {w : World} (h1 : Ar w s1 l1 A1 n1 c1) (h2 : Ar w s2 l2 A2 n2 c2) (hb : ¬ (RightP s1 l1 ∧ RightP s2 l2)) :
    Calls Try.prog 64 #[.agg #[.int .i64 s1, .slice A1 n1 c1], .agg #[.int .i64 s2, .slice A2 n2 c2]] w fun e w' => e = .returned (.tuple #[.agg #[.int .i64 0, .slice none 0 0], .agg #[.int .i64 0, .slice none 0 0], .int .i64 1]) ∧ Below w.heap.size w w' := by
  have hH := fun (w' : World) (h : Below w.heap.size w w') (b : Bool) => rRight_any s1 l1 A1 n1 c1 w' (h1.later h) b
  have hG := fun (w' : World) (h : Below w.heap.size w w') (b : Bool) => rRight_any s2 l2 A2 n2 c2 w' (h2.later h) b
  have HH := Lib.hid hH; clear hH
  have HG := Lib.hid hG; clear hG
  have HB := Lib.hid hb; clear hb
  by_cases hr : RightP s1 l1
  · have hn : ¬ RightP s2 l2 := fun h => HB.out ⟨hr, h⟩
    have HR := Lib.hid hr; clear hr
    have HN := Lib.hid hn; clear hn
    clear h1 h2
    go_enter Try.func64, Try.ntmps64
    go_wp2_with fail
    obtain ⟨w1, hw1, hb1, k1, k2, k3, k4, _⟩ := boxes4 w #[.int .i64 s1, .slice A1 n1 c1] #[.int .i64 s2, .slice A2 n2 c2] #[.int .i64 0, .slice none 0 0] #[.int .i64 0, .slice none 0 0]
    rw [← hw1]
    clear hw1
    (with_reducible refine (HH.out w1 hb1 true (by simp [HR.out])).mono ?_)
    rintro e w2 ⟨rfl, hb2⟩
    have k2 := k2.below hb2 k2.lt
    have k3 := k3.below hb2 k3.lt
    have k4 := k4.below hb2 k4.lt
    have hb2 := hb1.trans (hb2.mono hb1.size)
    have j1 : w2.cell? ⟨w.heap.size + 1, 0, none⟩ = some (.int .i64 s2) := k2.cell 0
    have j2 : w2.cell? ⟨w.heap.size + 1, 1, none⟩ = some (.slice A2 n2 c2) := k2.cell 1
    go_wp2_with fail
    clear j1 j2
    (with_reducible refine (HG.out w2 hb2 false (by simp [HN.out])).mono ?_)
    rintro e w3 ⟨rfl, hb3⟩
    have k3 := k3.below hb3 k3.lt
    have k4 := k4.below hb3 k4.lt
    have hb3 := hb2.trans (hb3.mono hb2.size)
    clear k1 k2 hb1 hb2 HH HG
    obtain ⟨g, hg⟩ : ∃ g, w.heap.size + 1 + 1 = g := ⟨_, rfl⟩
    have hgw : w.heap.size ≤ g := by omega
    rw [hg] at k3 k4 ⊢
    clear hg
    have c30 : w3.cell? ⟨g, 0, none⟩ = some (.int .i64 0) := k3.cell 0
    have c31 : w3.cell? ⟨g, 1, none⟩ = some (.slice none 0 0) := k3.cell 1
    have c40 : w3.cell? ⟨g + 1, 0, none⟩ = some (.int .i64 0) := k4.cell 0
    have c41 : w3.cell? ⟨g + 1, 1, none⟩ = some (.slice none 0 0) := k4.cell 1
    have f30 := k3.frozen 0
    have f31 := k3.frozen 1
    have f40 := k4.frozen 0
    have f41 := k4.frozen 1
    have hbs := k3.set2 (.int .i64 0) (.slice none 0 0)
    have hbs' := (hbs.far (p := ⟨g + 1, 0, none⟩) (by simp) (.int .i64 0)).far (p := ⟨g + 1, 1, none⟩) (by simp) (.slice none 0 0)
    have hbt := ((k4.far (p := ⟨g, 0, none⟩) (by simp) (.int .i64 0)).far (p := ⟨g, 1, none⟩) (by simp) (.slice none 0 0)).set2 (.int .i64 0) (.slice none 0 0)
    have d0 := hbs'.cell 0
    have d1 := hbs'.cell 1
    have d2 := hbt.cell 0
    have d3 := hbt.cell 1
    simp at d0 d1 d2 d3
    have hb4 := (((hb3.setCell (p := ⟨g, 0, none⟩) hgw (.int .i64 0)).setCell (p := ⟨g, 1, none⟩) hgw (.slice none 0 0)).setCell (p := ⟨g + 1, 0, none⟩) (by show w.heap.size ≤ g + 1; omega) (.int .i64 0)).setCell (p := ⟨g + 1, 1, none⟩) (by show w.heap.size ≤ g + 1; omega) (.slice none 0 0)
    go_wp2_with fail
    refine bodyPost_ret (v := .tuple #[.agg #[.int .i64 0, .slice none 0 0], .agg #[.int .i64 0, .slice none 0 0], .int .i64 1]) (by simp [results, Try.results64, go_sem, d0, d1, d2, d3]) rfl ?_
    exact ⟨rfl, hb4⟩
  · have HN := Lib.hid hr; clear hr
    clear h1 h2
    go_enter Try.func64, Try.ntmps64
    go_wp2_with fail
    obtain ⟨w1, hw1, hb1, k1, k2, k3, k4, _⟩ := boxes4 w #[.int .i64 s1, .slice A1 n1 c1] #[.int .i64 s2, .slice A2 n2 c2] #[.int .i64 0, .slice none 0 0] #[.int .i64 0, .slice none 0 0]
    rw [← hw1]
    clear hw1
    (with_reducible refine (HH.out w1 hb1 false (by simp [HN.out])).mono ?_)
    rintro e w2 ⟨rfl, hb2⟩
    have k3 := k3.below hb2 k3.lt
    have k4 := k4.below hb2 k4.lt
    have hb2 := hb1.trans (hb2.mono hb1.size)
    clear k1 k2 hb1 HH HG
    obtain ⟨g, hg⟩ : ∃ g, w.heap.size + 1 + 1 = g := ⟨_, rfl⟩
    have hgw : w.heap.size ≤ g := by omega
    rw [hg] at k3 k4 ⊢
    clear hg
    have c30 : w2.cell? ⟨g, 0, none⟩ = some (.int .i64 0) := k3.cell 0
    have c31 : w2.cell? ⟨g, 1, none⟩ = some (.slice none 0 0) := k3.cell 1
    have c40 : w2.cell? ⟨g + 1, 0, none⟩ = some (.int .i64 0) := k4.cell 0
    have c41 : w2.cell? ⟨g + 1, 1, none⟩ = some (.slice none 0 0) := k4.cell 1
    have f30 := k3.frozen 0
    have f31 := k3.frozen 1
    have f40 := k4.frozen 0
    have f41 := k4.frozen 1
    have hbs := k3.set2 (.int .i64 0) (.slice none 0 0)
    have hbs' := (hbs.far (p := ⟨g + 1, 0, none⟩) (by simp) (.int .i64 0)).far (p := ⟨g + 1, 1, none⟩) (by simp) (.slice none 0 0)
    have hbt := ((k4.far (p := ⟨g, 0, none⟩) (by simp) (.int .i64 0)).far (p := ⟨g, 1, none⟩) (by simp) (.slice none 0 0)).set2 (.int .i64 0) (.slice none 0 0)
    have d0 := hbs'.cell 0
    have d1 := hbs'.cell 1
    have d2 := hbt.cell 0
    have d3 := hbt.cell 1
    simp at d0 d1 d2 d3
    have hb4 := (((hb2.setCell (p := ⟨g, 0, none⟩) hgw (.int .i64 0)).setCell (p := ⟨g, 1, none⟩) hgw (.slice none 0 0)).setCell (p := ⟨g + 1, 0, none⟩) (by show w.heap.size ≤ g + 1; omega) (.int .i64 0)).setCell (p := ⟨g + 1, 1, none⟩) (by show w.heap.size ≤ g + 1; omega) (.slice none 0 0)
    go_wp2_with fail
    refine bodyPost_ret (v := .tuple #[.agg #[.int .i64 0, .slice none 0 0], .agg #[.int .i64 0, .slice none 0 0], .int .i64 1]) (by simp [results, Try.results64, go_sem, d0, d1, d2, d3]) rfl ?_
    exact ⟨rfl, hb4⟩

end Go.Proofs.Ytlbjaimgoiimgaa

namespace Go.Proofs.Ytlbjaimgoiimgaa
open Go.RowKit

set_option maxRecDepth 100000 in
set_option maxHeartbeats 8000000 in
theorem rdiv_same {s1 s2 : Int} {A1 A2 : Option Addr} {n1 c1 n2 c2 : Nat} {x y : Int} (w : World) (h1 : BV w w.heap.size (.agg #[.int .i64 s1, .slice A1 n1 c1]) x) (h2 : BV w w.heap.size (.agg #[.int .i64 s2, .slice A2 n2 c2]) y) (hx : ab x < pw 60) (hy : ab y < pw 60) (hy0 : y ≠ 0) (hc : s1 = s2 ∨ ab x % ab y = 0) :
    Calls Try.prog 64 #[.agg #[.int .i64 s1, .slice A1 n1 c1], .agg #[.int .i64 s2, .slice A2 n2 c2]] w (DivP x y w) := by
  have hs1 := (bv_sv h1).2.1
  have hs2 := (bv_sv h2).2.1
  have hl1 : (D (ab x)).length ≤ 60 := (D_len_le (ab_nonneg x)).2 hx
  have hl2 : (D (ab y)).length ≤ 60 := (D_len_le (ab_nonneg y)).2 hy
  have hY : 1 ≤ ab y := by unfold ab; omega
  have hr1 := fun (w' : World) (hbw : Below w.heap.size w w') => rRight_yes (h1.later hbw) hx
  have hr2 := fun (w' : World) (hbw : Below w.heap.size w w') => rRight_yes (h2.later hbw) hy
  have hov := fun (w' : World) (hbw : Below w.heap.size w w') => rover_any (D (ab x)) (D (ab y)) (.slice A1 n1 c1) (.slice A2 n2 c2) w' (bv_sv (h1.later hbw)).1 (bv_sv (h2.later hbw)).1 (Dig_D _) (Dig_D _) (by omega) (by omega) (ab y) (nv_D (ab_nonneg y)) hY
  rw [nv_D (ab_nonneg x)] at hov
  have hq0 := Int.ediv_nonneg (ab_nonneg x) (ab_nonneg y)
  have hm0 := Int.emod_nonneg (ab x) (b := ab y) (by omega)
  have hm1 := Int.emod_lt_of_pos (ab x) (b := ab y) (by omega)
  have hqx : ab x / ab y ≤ ab x := Int.ediv_le_self _ (ab_nonneg x)
  have hqr := (div_same (x := x) (y := y) hy0 (by rw [← hs1, ← hs2]; exact hc)).1
  have hlq : (D (ab x / ab y)).length ≤ 60 := (D_len_le hq0).2 (by omega)
  have hlr : (D (ab x % ab y)).length ≤ 60 := (D_len_le hm0).2 (by omega)
  have hx00 : s1 = 0 → ab x = 0 := by intro h; rw [hs1] at h; unfold sgn at h; unfold ab; split at h <;> (try split at h) <;> omega
  have hq00 : s1 = 0 → ab x / ab y = 0 := fun h => by rw [hx00 h]; exact Int.zero_ediv _
  have hr00 : s1 = 0 → ab x % ab y = 0 := fun h => by rw [hx00 h]; exact Int.zero_emod _
  have hsb1 := sgn_bd x
  have hsb2 := sgn_bd y
  have hs20 : s2 ≠ 0 := by rw [hs2]; unfold sgn; split <;> (try split) <;> omega
  rw [← hs1] at hsb1 hqr
  rw [← hs2] at hsb2 hqr
  have hre : s2 * (ab x % ab y) = s1 * (ab x % ab y) := by
    rcases hc with h | h
    · rw [h]
    · rw [h, Int.mul_zero, Int.mul_zero]
  rw [hre] at hqr
  obtain ⟨Q, hQ⟩ : ∃ z, ab x / ab y = z := ⟨_, rfl⟩
  obtain ⟨R, hR⟩ : ∃ z, ab x % ab y = z := ⟨_, rfl⟩
  rw [hQ] at hov hq0 hqr hlq hq00
  rw [hR] at hov hm0 hqr hlr hc hr00
  have hs3 : s1 = -1 ∨ s1 = 0 ∨ s1 = 1 := by omega
  have hs4 : s2 = -1 ∨ s2 = 1 := by omega
  obtain ⟨P, hP⟩ : ∃ P, s1 * s2 = P := ⟨_, rfl⟩
  have hP3 : (P = 1 ∨ P = -1) ∨ P = 0 := by rw [← hP]; rcases hs3 with h | h | h <;> rcases hs4 with h' | h' <;> rw [h, h'] <;> decide
  have hPs : P = 0 → s1 = 0 := by intro h; rw [← hP] at h; rcases hs3 with g | g | g <;> rcases hs4 with g' | g' <;> rw [g, g'] at h <;> first | exact g | (exfalso; revert h; decide)
  have hPR : 0 ≤ P ∨ (¬ 0 ≤ P ∧ R = 0) := by
    rcases hc with h | h
    · left; rw [← hP, h]; rcases hs4 with g' | g' <;> rw [g'] <;> decide
    · by_cases g : 0 ≤ P
      · exact .inl g
      · exact .inr ⟨g, h⟩
  have hwm : IntKind.i64.wrap (s1 * s2) = P := by rw [hP]; exact IntWalk.i64_in _ (by omega)
  rw [hP] at hqr
  have hmq := fun (v : Value) (w' : World) (hv : Sv w' v (D Q)) => rmade_any (D Q) P (P * Q) v w' hv (Dig_D _) (by omega) (by rw [nv_D hq0]) (by rw [nv_D hq0]; rcases hP3 with (h | h) | h; exact .inl h; exact .inr (.inl h); exact .inr (.inr (hq00 (hPs h))))
  have hmr := fun (v : Value) (w' : World) (hv : Sv w' v (D R)) => rmade_any (D R) s1 (s1 * R) v w' hv (Dig_D _) (by omega) (by rw [nv_D hm0]) (by rw [nv_D hm0]; rcases hs3 with h | h | h; exact .inr (.inl h); exact .inr (.inr (hr00 h)); exact .inl h)
  have hnr0 : R = 0 → (D R).length = 0 := fun h => by rw [h, D_zero]; rfl
  have hsy : (s2 == 0) = false := by simpa using hs20
  have HWM := Lib.hid hwm; clear hwm
  have HR1 := Lib.hid hr1; clear hr1
  have HR2 := Lib.hid hr2; clear hr2
  have HOV := Lib.hid hov; clear hov
  have HMQ := Lib.hid hmq; clear hmq
  have HMR := Lib.hid hmr; clear hmr
  have HQR := Lib.hid hqr; clear hqr
  have HN0 := Lib.hid hnr0; clear hnr0
  have HPR := Lib.hid hPR; clear hPR
  clear h1 h2 hx hy hy0 hc hs1 hs2 hl1 hl2 hY hq0 hm0 hm1 hqx hlq hlr hx00 hq00 hr00 hsb1 hsb2 hs20 hre hQ hR hs3 hs4 hP hP3 hPs
  go_enter Try.func64, Try.ntmps64
  go_wp2_with fail
  obtain ⟨w1, hw1, hb1, k1, k2, k3, k4, hsz⟩ := boxes4 w #[.int .i64 s1, .slice A1 n1 c1] #[.int .i64 s2, .slice A2 n2 c2] #[.int .i64 0, .slice none 0 0] #[.int .i64 0, .slice none 0 0]
  rw [← hw1]
  clear hw1
  (with_reducible refine (HR1.out w1 hb1).mono ?_)
  rintro e w2 ⟨rfl, hb2⟩
  have k1 := k1.below hb2 k1.lt
  have k2 := k2.below hb2 k2.lt
  have k3 := k3.below hb2 k3.lt
  have k4 := k4.below hb2 k4.lt
  have hb2 := hb1.trans (hb2.mono hb1.size)
  have j1 : w2.cell? ⟨w.heap.size + 1, 0, none⟩ = some (.int .i64 s2) := k2.cell 0
  have j2 : w2.cell? ⟨w.heap.size + 1, 1, none⟩ = some (.slice A2 n2 c2) := k2.cell 1
  go_wp2_with fail
  (with_reducible refine (HR2.out w2 hb2).mono ?_)
  rintro e w3 ⟨rfl, hb3⟩
  clear j1 j2
  have k1 := k1.below hb3 k1.lt
  have k2 := k2.below hb3 k2.lt
  have k3 := k3.below hb3 k3.lt
  have k4 := k4.below hb3 k4.lt
  have hb3 := hb2.trans (hb3.mono hb2.size)
  clear hb1 hb2 HR1 HR2
  obtain ⟨g, hg⟩ : ∃ g, w.heap.size + 1 + 1 = g := ⟨_, rfl⟩
  have hgw : w.heap.size + 1 < g ∧ g + 1 < w3.heap.size := by have := k4.lt; omega
  rw [hg] at k3 k4 ⊢
  clear hg hsz
  have j0 : w3.cell? ⟨w.heap.size, 0, none⟩ = some (.int .i64 s1) := k1.cell 0
  have j1 : w3.cell? ⟨w.heap.size, 1, none⟩ = some (.slice A1 n1 c1) := k1.cell 1
  have j2 : w3.cell? ⟨w.heap.size + 1, 0, none⟩ = some (.int .i64 s2) := k2.cell 0
  have j3 : w3.cell? ⟨w.heap.size + 1, 1, none⟩ = some (.slice A2 n2 c2) := k2.cell 1
  go_wp2_with fail
  (with_reducible refine (HOV.out w3 hb3).mono ?_)
  rintro e w4 ⟨vq, vr, rfl, hoq, hor, hb4⟩
  have hmq := fun w' hb => HMQ.out vq w' (hoq.sv.later' hb)
  have hmr := fun w' hb => HMR.out vr w' (hor.sv.later' hb)
  have HSQ := Lib.hid hmq; clear hmq
  have HSR := Lib.hid hmr; clear hmr
  obtain ⟨Aq, cq, rfl, _, _, _⟩ := hoq.at_
  obtain ⟨Ar, cr, rfl, _, _, _⟩ := hor.at_
  have k1 := k1.below hb4 k1.lt
  have k2 := k2.below hb4 k2.lt
  have k3 := k3.below hb4 (by omega)
  have k4 := k4.below hb4 (by omega)
  clear j0 j1 j2 j3 HOV HMQ HMR hoq hor
  have j0 : w4.cell? ⟨w.heap.size, 0, none⟩ = some (.int .i64 s1) := k1.cell 0
  have j1 : w4.cell? ⟨w.heap.size, 1, none⟩ = some (.slice A1 n1 c1) := k1.cell 1
  have j2 : w4.cell? ⟨w.heap.size + 1, 0, none⟩ = some (.int .i64 s2) := k2.cell 0
  have j3 : w4.cell? ⟨w.heap.size + 1, 1, none⟩ = some (.slice A2 n2 c2) := k2.cell 1
  have hs34 := hb4.size
  have e0 : ∀ W' : World, Below g w4 W' → W'.cell? ⟨w.heap.size, 0, none⟩ = some (.int .i64 s1) ∧ W'.cell? ⟨w.heap.size, 1, none⟩ = some (.slice A1 n1 c1) ∧ W'.cell? ⟨w.heap.size + 1, 0, none⟩ = some (.int .i64 s2) ∧ W'.cell? ⟨w.heap.size + 1, 1, none⟩ = some (.slice A2 n2 c2) ∧ Below g w4 W' := fun W' hW =>
    ⟨(k1.below hW (by omega)).cell 0, (k1.below hW (by omega)).cell 1, (k2.below hW (by omega)).cell 0, (k2.below hW (by omega)).cell 1, hW⟩
  have E0 := Lib.hid e0; clear e0
  have hB00 : Below g w4 w4.drew := (Below.refl _ _).drew
  have hB01 : Below w4.heap.size w4 w4.drew := (Below.refl _ _).drew
  have hgW : g + 1 < w4.heap.size := by omega
  obtain ⟨nq, hnq⟩ : ∃ n, (D Q).length = n := ⟨_, rfl⟩
  obtain ⟨nr, hnr⟩ : ∃ n, (D R).length = n := ⟨_, rfl⟩
  rw [hnq] at HSQ ⊢
  rw [hnr] at HSR HN0 ⊢
  clear hnq hnr
  have hwm := HWM.out
  rcases HPR.out with hp | ⟨hp, hr0⟩
  rotate_left
  · have hn0 := HN0.out hr0
    subst hn0
    have hpd : decide (0 ≤ P) = false := decide_eq_false (by omega)
    clear hr0
    go_upto_region 7 with fail
    clear j0 j1 j2 j3
    go_region_held3 (fun W' => W'.cell? ⟨w.heap.size, 0, none⟩ = some (.int .i64 s1) ∧ W'.cell? ⟨w.heap.size, 1, none⟩ = some (.slice A1 n1 c1) ∧ W'.cell? ⟨w.heap.size + 1, 0, none⟩ = some (.int .i64 s2) ∧ W'.cell? ⟨w.heap.size + 1, 1, none⟩ = some (.slice A2 n2 c2) ∧ Below g w4 W')
      (first | exact E0.out _ (by assumption) | exact E0.out _ ⟨rfl, rfl, rfl, Nat.le_refl _, fun _ _ => rfl⟩)
      (first
        | (go_at_call_of 65 (Value.int .i64 P); (with_reducible refine (HSQ.out _ hB01).mono ?_); rintro e w5 ⟨rq, rfl, hrq, hb5⟩; have hrq4 : BO w5 w4.heap.size rq (P * Q) := hrq; have HRQ := Lib.hid hrq4; obtain ⟨sq', Aq', nq', cq', rfl⟩ := hrq.form; clear hrq hrq4; have hB5 : Below w4.heap.size w4 w5 := ⟨hb5.os, hb5.tape, hb5.output, hb5.size, hb5.block⟩; have hB5g : Below g w4 w5 := hB5.mono (by omega))
        | (go_at_call_of 65 (Value.int .i64 s1); (with_reducible refine (HSR.out _ hB5).mono ?_); rintro e w6 ⟨rr, rfl, hrr, hb6⟩; have HRR := Lib.hid hrr; obtain ⟨sr', Ar', nr', cr', rfl⟩ := hrr.form; clear hrr; have hB6 : Below w4.heap.size w4 w6 := hB5.trans (hb6.mono hB5.size); have hB6g : Below g w4 w6 := hB6.mono (by omega); have hbk := k3.below hB6 (by omega); have hbl := k4.below hB6 (by omega); have q0 : w6.cell? ⟨g, 0, none⟩ = some (.int .i64 0) := hbk.cell 0; have q1 : w6.cell? ⟨g, 1, none⟩ = some (.slice none 0 0) := hbk.cell 1; have f0 := hbk.frozen 0; have f1 := hbk.frozen 1; have q2 : w6.cell? ⟨g + 1, 0, none⟩ = some (.int .i64 0) := hbl.cell 0; have q3 : w6.cell? ⟨g + 1, 1, none⟩ = some (.slice none 0 0) := hbl.cell 1; have f2 := hbl.frozen 0; have f3 := hbl.frozen 1; have hB7 := (hB6g.setCell (p := ⟨g, 0, none⟩) (Nat.le_refl _) (.int .i64 sq')).setCell (p := ⟨g, 1, none⟩) (Nat.le_refl _) (.slice Aq' nq' cq'); have hB8 := (hB7.setCell (p := ⟨g + 1, 0, none⟩) (Nat.le_succ _) (.int .i64 sr')).setCell (p := ⟨g + 1, 1, none⟩) (Nat.le_succ _) (.slice Ar' nr' cr')))
    have hbs := hbk.set2 (.int .i64 sq') (.slice Aq' nq' cq')
    have hbs' := (hbs.far (p := ⟨g + 1, 0, none⟩) (by simp) (.int .i64 sr')).far (p := ⟨g + 1, 1, none⟩) (by simp) (.slice Ar' nr' cr')
    have hbt := ((hbl.far (p := ⟨g, 0, none⟩) (by simp) (.int .i64 sq')).far (p := ⟨g, 1, none⟩) (by simp) (.slice Aq' nq' cq')).set2 (.int .i64 sr') (.slice Ar' nr' cr')
    have hd0 := hbs'.cell 0
    have hd1 := hbs'.cell 1
    have hd2 := hbt.cell 0
    have hd3 := hbt.cell 1
    simp at hd0 hd1 hd2 hd3
    go_wp2_with fail
    refine bodyPost_ret (v := .tuple #[.agg #[.int .i64 sq', .slice Aq' nq' cq'], .agg #[.int .i64 sr', .slice Ar' nr' cr'], .int .i64 0]) (by simp [results, Try.results64, go_sem, hd0, hd1, hd2, hd3]) rfl ?_
    have ho1 := ((HRQ.out.below hb6).far2 (g := g) (by omega) (.int .i64 sq') (.slice Aq' nq' cq')).far2 (g := g + 1) (by omega) (.int .i64 sr') (.slice Ar' nr' cr')
    have hs56 := hB5.size
    have ho2 := ((HRR.out.mono hs56).far2 (g := g) (by omega) (.int .i64 sq') (.slice Aq' nq' cq')).far2 (g := g + 1) (by omega) (.int .i64 sr') (.slice Ar' nr' cr')
    have hsz3 := hb3.size
    exact ⟨_, _, _, _, rfl, ho1.mono (by omega), ho2.mono (by omega), HQR.out, (hb3.trans (hb4.mono hsz3)).trans (hB8.mono (by omega))⟩
  · have hpd : decide (0 ≤ P) = true := decide_eq_true hp
    go_upto_region 7 with fail
    clear j0 j1 j2 j3
    go_region_held3 (fun W' => W'.cell? ⟨w.heap.size, 0, none⟩ = some (.int .i64 s1) ∧ W'.cell? ⟨w.heap.size, 1, none⟩ = some (.slice A1 n1 c1) ∧ W'.cell? ⟨w.heap.size + 1, 0, none⟩ = some (.int .i64 s2) ∧ W'.cell? ⟨w.heap.size + 1, 1, none⟩ = some (.slice A2 n2 c2) ∧ Below g w4 W')
      (first | exact E0.out _ (by assumption) | exact E0.out _ ⟨rfl, rfl, rfl, Nat.le_refl _, fun _ _ => rfl⟩)
      (first
        | (go_at_call_of 65 (Value.int .i64 P); (with_reducible refine (HSQ.out _ hB01).mono ?_); rintro e w5 ⟨rq, rfl, hrq, hb5⟩; have hrq4 : BO w5 w4.heap.size rq (P * Q) := hrq; have HRQ := Lib.hid hrq4; obtain ⟨sq', Aq', nq', cq', rfl⟩ := hrq.form; clear hrq hrq4; have hB5 : Below w4.heap.size w4 w5 := ⟨hb5.os, hb5.tape, hb5.output, hb5.size, hb5.block⟩; have hB5g : Below g w4 w5 := hB5.mono (by omega))
        | (go_at_call_of 65 (Value.int .i64 s1); (with_reducible refine (HSR.out _ hB5).mono ?_); rintro e w6 ⟨rr, rfl, hrr, hb6⟩; have HRR := Lib.hid hrr; obtain ⟨sr', Ar', nr', cr', rfl⟩ := hrr.form; clear hrr; have hB6 : Below w4.heap.size w4 w6 := hB5.trans (hb6.mono hB5.size); have hB6g : Below g w4 w6 := hB6.mono (by omega); have hbk := k3.below hB6 (by omega); have hbl := k4.below hB6 (by omega); have q0 : w6.cell? ⟨g, 0, none⟩ = some (.int .i64 0) := hbk.cell 0; have q1 : w6.cell? ⟨g, 1, none⟩ = some (.slice none 0 0) := hbk.cell 1; have f0 := hbk.frozen 0; have f1 := hbk.frozen 1; have q2 : w6.cell? ⟨g + 1, 0, none⟩ = some (.int .i64 0) := hbl.cell 0; have q3 : w6.cell? ⟨g + 1, 1, none⟩ = some (.slice none 0 0) := hbl.cell 1; have f2 := hbl.frozen 0; have f3 := hbl.frozen 1; have hB7 := (hB6g.setCell (p := ⟨g, 0, none⟩) (Nat.le_refl _) (.int .i64 sq')).setCell (p := ⟨g, 1, none⟩) (Nat.le_refl _) (.slice Aq' nq' cq'); have hB8 := (hB7.setCell (p := ⟨g + 1, 0, none⟩) (Nat.le_succ _) (.int .i64 sr')).setCell (p := ⟨g + 1, 1, none⟩) (Nat.le_succ _) (.slice Ar' nr' cr')))
    have hbs := hbk.set2 (.int .i64 sq') (.slice Aq' nq' cq')
    have hbs' := (hbs.far (p := ⟨g + 1, 0, none⟩) (by simp) (.int .i64 sr')).far (p := ⟨g + 1, 1, none⟩) (by simp) (.slice Ar' nr' cr')
    have hbt := ((hbl.far (p := ⟨g, 0, none⟩) (by simp) (.int .i64 sq')).far (p := ⟨g, 1, none⟩) (by simp) (.slice Aq' nq' cq')).set2 (.int .i64 sr') (.slice Ar' nr' cr')
    have hd0 := hbs'.cell 0
    have hd1 := hbs'.cell 1
    have hd2 := hbt.cell 0
    have hd3 := hbt.cell 1
    simp at hd0 hd1 hd2 hd3
    go_wp2_with fail
    refine bodyPost_ret (v := .tuple #[.agg #[.int .i64 sq', .slice Aq' nq' cq'], .agg #[.int .i64 sr', .slice Ar' nr' cr'], .int .i64 0]) (by simp [results, Try.results64, go_sem, hd0, hd1, hd2, hd3]) rfl ?_
    have ho1 := ((HRQ.out.below hb6).far2 (g := g) (by omega) (.int .i64 sq') (.slice Aq' nq' cq')).far2 (g := g + 1) (by omega) (.int .i64 sr') (.slice Ar' nr' cr')
    have hs56 := hB5.size
    have ho2 := ((HRR.out.mono hs56).far2 (g := g) (by omega) (.int .i64 sq') (.slice Aq' nq' cq')).far2 (g := g + 1) (by omega) (.int .i64 sr') (.slice Ar' nr' cr')
    have hsz3 := hb3.size
    exact ⟨_, _, _, _, rfl, ho1.mono (by omega), ho2.mono (by omega), HQR.out, (hb3.trans (hb4.mono hsz3)).trans (hB8.mono (by omega))⟩

end Go.Proofs.Ytlbjaimgoiimgaa

namespace Go.Proofs.Ytlbjaimgoiimgaa
open Go.RowKit

set_option maxRecDepth 100000 in
set_option maxHeartbeats 8000000 in
theorem rdiv_diff {s1 s2 : Int} {A1 A2 : Option Addr} {n1 c1 n2 c2 : Nat} {x y : Int} (w : World) (h1 : BV w w.heap.size (.agg #[.int .i64 s1, .slice A1 n1 c1]) x) (h2 : BV w w.heap.size (.agg #[.int .i64 s2, .slice A2 n2 c2]) y) (hx : ab x < pw 60) (hy : ab y < pw 60) (hy0 : y ≠ 0) (hc : s1 ≠ s2) (hr : 0 < ab x % ab y) :
    Calls Try.prog 64 #[.agg #[.int .i64 s1, .slice A1 n1 c1], .agg #[.int .i64 s2, .slice A2 n2 c2]] w (DivP x y w) := by
  have hs1 := (bv_sv h1).2.1
  have hs2 := (bv_sv h2).2.1
  have hl1 : (D (ab x)).length ≤ 60 := (D_len_le (ab_nonneg x)).2 hx
  have hl2 : (D (ab y)).length ≤ 60 := (D_len_le (ab_nonneg y)).2 hy
  have hY : 1 ≤ ab y := by unfold ab; omega
  have hr1 := fun (w' : World) (hbw : Below w.heap.size w w') => rRight_yes (h1.later hbw) hx
  have hr2 := fun (w' : World) (hbw : Below w.heap.size w w') => rRight_yes (h2.later hbw) hy
  have hov := fun (w' : World) (hbw : Below w.heap.size w w') => rover_any (D (ab x)) (D (ab y)) (.slice A1 n1 c1) (.slice A2 n2 c2) w' (bv_sv (h1.later hbw)).1 (bv_sv (h2.later hbw)).1 (Dig_D _) (Dig_D _) (by omega) (by omega) (ab y) (nv_D (ab_nonneg y)) hY
  rw [nv_D (ab_nonneg x)] at hov
  have hq0 := Int.ediv_nonneg (ab_nonneg x) (ab_nonneg y)
  have hm1 := Int.emod_lt_of_pos (ab x) (b := ab y) (by omega)
  have hqx : ab x / ab y ≤ ab x := Int.ediv_le_self _ (ab_nonneg x)
  have hqr := (div_diff (x := x) (y := y) hy0 (by rw [← hs1, ← hs2]; exact hc) hr).1
  have hm0 : 0 ≤ ab x % ab y := by omega
  have hlq : (D (ab x / ab y)).length ≤ 60 := (D_len_le hq0).2 (by omega)
  have hlr : (D (ab x % ab y)).length ≤ 60 := (D_len_le hm0).2 (by omega)
  have hx00 : s1 ≠ 0 := by
    intro h
    have : ab x = 0 := by rw [hs1] at h; unfold sgn at h; unfold ab; split at h <;> (try split at h) <;> omega
    rw [this, Int.zero_emod] at hr
    omega
  have hsb1 := sgn_bd x
  have hsb2 := sgn_bd y
  have hs20 : s2 ≠ 0 := by rw [hs2]; unfold sgn; split <;> (try split) <;> omega
  rw [← hs1] at hsb1
  rw [← hs2] at hsb2 hqr
  have hpl := fun (vq : Value) (w' : World) (v : Value) (hq : Sv w' vq (D (ab x / ab y))) (hv : Sv w' v [1]) => rplus_any (D (ab x / ab y)) [1] vq v w' hq hv (Dig_D _) (dig_one (by decide) (by decide)) (by omega) (by simp)
  rw [nv_D hq0, nv_one] at hpl
  have hmi := fun (vr : Value) (w' : World) (hb : Below w.heap.size w w') (hv : Sv w' vr (D (ab x % ab y))) => rminus_any (D (ab y)) (D (ab x % ab y)) (.slice A2 n2 c2) vr w' (bv_sv (h2.later hb)).1 hv (Dig_D _) (Dig_D _) (by omega) (D_len_mono hm0 (by omega)) (by rw [nv_D hm0, nv_D (ab_nonneg y)]; omega)
  rw [nv_D hm0, nv_D (ab_nonneg y)] at hmi
  have hlq1 : (D (ab x / ab y + 1)).length ≤ 400 := (D_len_le (by omega)).2 (by have := pw_le (show 60 + 1 ≤ 400 by omega); rw [pw_succ] at this; have := pw_pos 60; omega)
  have hlr1 : (D (ab y - ab x % ab y)).length ≤ 400 := by have := D_len_mono (show 0 ≤ ab y - ab x % ab y by omega) (show ab y - ab x % ab y ≤ ab y by omega); omega
  have hmq := fun (v : Value) (w' : World) (hv : Sv w' v (D (ab x / ab y + 1))) => rmade_any (D (ab x / ab y + 1)) (-1) (-(ab x / ab y + 1)) v w' hv (Dig_D _) hlq1 (by rw [nv_D (by omega)]; omega) (.inr (.inl rfl))
  have hmr := fun (v : Value) (w' : World) (hv : Sv w' v (D (ab y - ab x % ab y))) => rmade_any (D (ab y - ab x % ab y)) s2 (s2 * (ab y - ab x % ab y)) v w' hv (Dig_D _) hlr1 (by rw [nv_D (by omega)]) (by omega)
  have hlr0 : 0 < (D (ab x % ab y)).length := D_len_pos hr
  obtain ⟨Q, hQ⟩ : ∃ z, ab x / ab y = z := ⟨_, rfl⟩
  obtain ⟨R, hR⟩ : ∃ z, ab x % ab y = z := ⟨_, rfl⟩
  rw [hQ] at hov hqr hpl hmq
  rw [hR] at hov hqr hmi hmr hlr0
  obtain ⟨Q1, hQ1⟩ : ∃ z, Q + 1 = z := ⟨_, rfl⟩
  obtain ⟨R1, hR1⟩ : ∃ z, ab y - R = z := ⟨_, rfl⟩
  rw [hQ1] at hqr hpl hmq
  rw [hR1] at hqr hmi hmr
  have hs3 : s1 = -1 ∨ s1 = 1 := by omega
  have hs4 : s2 = -1 ∨ s2 = 1 := by omega
  have hP : s1 * s2 = -1 := by rcases hs3 with h | h <;> rcases hs4 with h' | h' <;> rw [h, h'] <;> first | rfl | (exfalso; omega)
  have hwm : IntKind.i64.wrap (s1 * s2) = -1 := by rw [hP]; decide
  have hsy : (s2 == 0) = false := by simpa using hs20
  have HWM := Lib.hid hwm; clear hwm
  have HR1 := Lib.hid hr1; clear hr1
  have HR2 := Lib.hid hr2; clear hr2
  have HOV := Lib.hid hov; clear hov
  have HMQ := Lib.hid hmq; clear hmq
  have HMR := Lib.hid hmr; clear hmr
  have HPL := Lib.hid hpl; clear hpl
  have HMI := Lib.hid hmi; clear hmi
  have HQR := Lib.hid hqr; clear hqr
  clear h1 h2 hx hy hy0 hc hs1 hs2 hl1 hl2 hY hq0 hm0 hm1 hqx hlq hlr hx00 hsb1 hsb2 hs20 hQ1 hR1 hQ hR hs3 hs4 hP hr hlq1 hlr1
  go_enter Try.func64, Try.ntmps64
  go_wp2_with fail
  obtain ⟨w1, hw1, hb1, k1, k2, k3, k4, hsz⟩ := boxes4 w #[.int .i64 s1, .slice A1 n1 c1] #[.int .i64 s2, .slice A2 n2 c2] #[.int .i64 0, .slice none 0 0] #[.int .i64 0, .slice none 0 0]
  rw [← hw1]
  clear hw1
  (with_reducible refine (HR1.out w1 hb1).mono ?_)
  rintro e w2 ⟨rfl, hb2⟩
  have k1 := k1.below hb2 k1.lt
  have k2 := k2.below hb2 k2.lt
  have k3 := k3.below hb2 k3.lt
  have k4 := k4.below hb2 k4.lt
  have hb2 := hb1.trans (hb2.mono hb1.size)
  have j1 : w2.cell? ⟨w.heap.size + 1, 0, none⟩ = some (.int .i64 s2) := k2.cell 0
  have j2 : w2.cell? ⟨w.heap.size + 1, 1, none⟩ = some (.slice A2 n2 c2) := k2.cell 1
  go_wp2_with fail
  (with_reducible refine (HR2.out w2 hb2).mono ?_)
  rintro e w3 ⟨rfl, hb3⟩
  clear j1 j2
  have k1 := k1.below hb3 k1.lt
  have k2 := k2.below hb3 k2.lt
  have k3 := k3.below hb3 k3.lt
  have k4 := k4.below hb3 k4.lt
  have hb3 := hb2.trans (hb3.mono hb2.size)
  clear hb1 hb2 HR1 HR2
  obtain ⟨g, hg⟩ : ∃ g, w.heap.size + 1 + 1 = g := ⟨_, rfl⟩
  have hgw : w.heap.size + 1 < g ∧ g + 1 < w3.heap.size := by have := k4.lt; omega
  rw [hg] at k3 k4 ⊢
  clear hg hsz
  have j0 : w3.cell? ⟨w.heap.size, 0, none⟩ = some (.int .i64 s1) := k1.cell 0
  have j1 : w3.cell? ⟨w.heap.size, 1, none⟩ = some (.slice A1 n1 c1) := k1.cell 1
  have j2 : w3.cell? ⟨w.heap.size + 1, 0, none⟩ = some (.int .i64 s2) := k2.cell 0
  have j3 : w3.cell? ⟨w.heap.size + 1, 1, none⟩ = some (.slice A2 n2 c2) := k2.cell 1
  go_wp2_with fail
  (with_reducible refine (HOV.out w3 hb3).mono ?_)
  rintro e w4 ⟨vq, vr, rfl, hoq, hor, hb4⟩
  have hpl := fun w' hb v hv => HPL.out vq w' v (hoq.sv.later' hb) hv
  have hmi := fun w' hb hb2 => HMI.out vr w' hb2 (hor.sv.later' hb)
  have HSQ := Lib.hid hpl; clear hpl
  have HSR := Lib.hid hmi; clear hmi
  obtain ⟨Aq, cq, rfl, _, _, _⟩ := hoq.at_
  obtain ⟨Ar, cr, rfl, _, _, _⟩ := hor.at_
  have k1 := k1.below hb4 k1.lt
  have k2 := k2.below hb4 k2.lt
  have k3 := k3.below hb4 (by omega)
  have k4 := k4.below hb4 (by omega)
  clear j0 j1 j2 j3 HOV HPL HMI hoq hor
  have j0 : w4.cell? ⟨w.heap.size, 0, none⟩ = some (.int .i64 s1) := k1.cell 0
  have j1 : w4.cell? ⟨w.heap.size, 1, none⟩ = some (.slice A1 n1 c1) := k1.cell 1
  have j2 : w4.cell? ⟨w.heap.size + 1, 0, none⟩ = some (.int .i64 s2) := k2.cell 0
  have j3 : w4.cell? ⟨w.heap.size + 1, 1, none⟩ = some (.slice A2 n2 c2) := k2.cell 1
  have hs34 := hb4.size
  have e0 : ∀ W' : World, Below g w4 W' → W'.cell? ⟨w.heap.size, 0, none⟩ = some (.int .i64 s1) ∧ W'.cell? ⟨w.heap.size, 1, none⟩ = some (.slice A1 n1 c1) ∧ W'.cell? ⟨w.heap.size + 1, 0, none⟩ = some (.int .i64 s2) ∧ W'.cell? ⟨w.heap.size + 1, 1, none⟩ = some (.slice A2 n2 c2) ∧ Below g w4 W' := fun W' hW =>
    ⟨(k1.below hW (by omega)).cell 0, (k1.below hW (by omega)).cell 1, (k2.below hW (by omega)).cell 0, (k2.below hW (by omega)).cell 1, hW⟩
  have E0 := Lib.hid e0; clear e0
  have hB00 : Below g w4 w4.drew := (Below.refl _ _).drew
  have hB01 : Below w4.heap.size w4 w4.drew := (Below.refl _ _).drew
  have hgW : g + 1 < w4.heap.size := by omega
  have hB02 := ((Below.refl w4.heap.size w4).alloc (Nat.le_refl _) (.cells #[.int .i64 1] 3)).drew
  have hB03 : Below g w4 (w4.alloc (.cells #[.int .i64 1] 3)).drew := hB02.mono (by omega)
  have hlit := (sv_lit1 w4 1).later' (Below.refl _ _).drew
  have HLIT := Lib.hid hlit; clear hlit
  have hb04 := hb3.trans (hb4.mono hb3.size)
  obtain ⟨nq, hnq⟩ : ∃ n, (D Q).length = n := ⟨_, rfl⟩
  obtain ⟨nr, hnr⟩ : ∃ n, (D R).length = n := ⟨_, rfl⟩
  rw [hnq] at HSQ ⊢
  rw [hnr] at HSR hlr0 ⊢
  clear hnq hnr
  have hwm := HWM.out
  go_upto_region 8 with fail
  clear j0 j1 j2 j3
  go_region_held3 (fun W' => W'.cell? ⟨w.heap.size, 0, none⟩ = some (.int .i64 s1) ∧ W'.cell? ⟨w.heap.size, 1, none⟩ = some (.slice A1 n1 c1) ∧ W'.cell? ⟨w.heap.size + 1, 0, none⟩ = some (.int .i64 s2) ∧ W'.cell? ⟨w.heap.size + 1, 1, none⟩ = some (.slice A2 n2 c2) ∧ Below g w4 W')
    (first | exact E0.out _ hB03 | exact E0.out _ (by assumption) | exact E0.out _ ⟨rfl, rfl, rfl, Nat.le_refl _, fun _ _ => rfl⟩)
    (first
      | (go_at_call 79; (with_reducible refine (HSQ.out _ hB02 _ HLIT.out).mono ?_); rintro e w5 ⟨v5, rfl, ho5, hb5⟩; have hB5 : Below w4.heap.size w4 w5 := hB02.trans (hb5.mono hB02.size); have hB5g : Below g w4 w5 := hB5.mono (by omega))
      | (go_at_call 65; (with_reducible refine (HMQ.out _ _ ho5.sv).mono ?_); rintro e w6 ⟨rq, rfl, hrq, hb6⟩; have hrq4 : BO w6 w4.heap.size rq (-Q1) := hrq.mono hB5.size; have HRQ := Lib.hid hrq4; obtain ⟨sq', Aq', nq', cq', rfl⟩ := hrq.form; clear hrq hrq4; have hB6 : Below w4.heap.size w4 w6 := hB5.trans (hb6.mono hB5.size); have hB6g : Below g w4 w6 := hB6.mono (by omega))
      | (go_at_call 80; (with_reducible refine (HSR.out _ hB6 (hb04.trans (hB6.mono hb04.size))).mono ?_); rintro e w7 ⟨v7, rfl, ho7, hb7⟩; have hB7w : Below w4.heap.size w4 w7 := hB6.trans (hb7.mono hB6.size); have hB7g : Below g w4 w7 := hB7w.mono (by omega))
      | (go_at_call_of 65 (Value.int .i64 s2); (with_reducible refine (HMR.out _ _ ho7.sv).mono ?_); rintro e w8 ⟨rr, rfl, hrr, hb8⟩; have hrr4 : BO w8 w4.heap.size rr (s2 * R1) := hrr.mono hB7w.size; have HRR := Lib.hid hrr4; obtain ⟨sr', Ar', nr', cr', rfl⟩ := hrr.form; clear hrr hrr4; have hB8w : Below w4.heap.size w4 w8 := hB7w.trans (hb8.mono hB7w.size); have hB8g : Below g w4 w8 := hB8w.mono (by omega); have hbk := k3.below hB8w (by omega); have hbl := k4.below hB8w (by omega); have q0 : w8.cell? ⟨g, 0, none⟩ = some (.int .i64 0) := hbk.cell 0; have q1 : w8.cell? ⟨g, 1, none⟩ = some (.slice none 0 0) := hbk.cell 1; have f0 := hbk.frozen 0; have f1 := hbk.frozen 1; have q2 : w8.cell? ⟨g + 1, 0, none⟩ = some (.int .i64 0) := hbl.cell 0; have q3 : w8.cell? ⟨g + 1, 1, none⟩ = some (.slice none 0 0) := hbl.cell 1; have f2 := hbl.frozen 0; have f3 := hbl.frozen 1; have hB7 := (hB8g.setCell (p := ⟨g, 0, none⟩) (Nat.le_refl _) (.int .i64 sq')).setCell (p := ⟨g, 1, none⟩) (Nat.le_refl _) (.slice Aq' nq' cq'); have hB8 := (hB7.setCell (p := ⟨g + 1, 0, none⟩) (Nat.le_succ _) (.int .i64 sr')).setCell (p := ⟨g + 1, 1, none⟩) (Nat.le_succ _) (.slice Ar' nr' cr')))
  have hbs := hbk.set2 (.int .i64 sq') (.slice Aq' nq' cq')
  have hbs' := (hbs.far (p := ⟨g + 1, 0, none⟩) (by simp) (.int .i64 sr')).far (p := ⟨g + 1, 1, none⟩) (by simp) (.slice Ar' nr' cr')
  have hbt := ((hbl.far (p := ⟨g, 0, none⟩) (by simp) (.int .i64 sq')).far (p := ⟨g, 1, none⟩) (by simp) (.slice Aq' nq' cq')).set2 (.int .i64 sr') (.slice Ar' nr' cr')
  have hd0 := hbs'.cell 0
  have hd1 := hbs'.cell 1
  have hd2 := hbt.cell 0
  have hd3 := hbt.cell 1
  simp at hd0 hd1 hd2 hd3
  go_wp2_with fail
  refine bodyPost_ret (v := .tuple #[.agg #[.int .i64 sq', .slice Aq' nq' cq'], .agg #[.int .i64 sr', .slice Ar' nr' cr'], .int .i64 0]) (by simp [results, Try.results64, go_sem, hd0, hd1, hd2, hd3]) rfl ?_
  have ho1 := ((HRQ.out.below (hb7.trans (hb8.mono hb7.size))).far2 (g := g) (by omega) (.int .i64 sq') (.slice Aq' nq' cq')).far2 (g := g + 1) (by omega) (.int .i64 sr') (.slice Ar' nr' cr')
  have ho2 := (HRR.out.far2 (g := g) (by omega) (.int .i64 sq') (.slice Aq' nq' cq')).far2 (g := g + 1) (by omega) (.int .i64 sr') (.slice Ar' nr' cr')
  have hsz3 := hb3.size
  exact ⟨_, _, _, _, rfl, ho1.mono (by omega), ho2.mono (by omega), HQR.out, (hb3.trans (hb4.mono hsz3)).trans (hB8.mono (by omega))⟩

/-- The reference's Div of two right big integers, the second not 0. -/
theorem rdiv_any {s1 s2 : Int} {A1 A2 : Option Addr} {n1 c1 n2 c2 : Nat} {x y : Int} (w : World) (h1 : BV w w.heap.size (.agg #[.int .i64 s1, .slice A1 n1 c1]) x) (h2 : BV w w.heap.size (.agg #[.int .i64 s2, .slice A2 n2 c2]) y) (hx : ab x < pw 60) (hy : ab y < pw 60) (hy0 : y ≠ 0) :
    Calls Try.prog 64 #[.agg #[.int .i64 s1, .slice A1 n1 c1], .agg #[.int .i64 s2, .slice A2 n2 c2]] w (DivP x y w) := by
  by_cases hc : s1 = s2 ∨ ab x % ab y = 0
  · exact rdiv_same w h1 h2 hx hy hy0 hc
  · have hY : 1 ≤ ab y := by unfold ab; omega
    have := Int.emod_nonneg (ab x) (b := ab y) (by omega)
    exact rdiv_diff w h1 h2 hx hy hy0 (by omega) (by omega)

end Go.Proofs.Ytlbjaimgoiimgaa

namespace Go.Proofs.Ytlbjaimgoiimgaa
open Go.RowKit

theorem ci_of (x y : Int) : Lib.compareInt x y = if x < y then -1 else if x = y then 0 else 1 := by
  rcases Int.lt_trichotomy x y with h | h | h
  · rw [cmp_of_lt h, if_pos h]
  · rw [cmp_of_eq h, if_neg (by omega), if_pos h]
  · rw [cmp_of_gt h, if_neg (by omega), if_neg (by omega)]

theorem int_step {z s1 N : Int} {j : Nat} (hs : s1 = sgn z) (h0 : -9223372036854775808 ≤ z) (h1 : z ≤ 9223372036854775807) (hN : N = s1 * nv ((D (ab z)).drop (j + 1))) (hj : j < (D (ab z)).length) :
    0 ≤ (D (ab z)).getD j 0 ∧ (D (ab z)).getD j 0 < 1048576 ∧ -9223372036854775808 ≤ N * 1048576 ∧ N * 1048576 ≤ 9223372036854775807 ∧ -1048576 ≤ s1 * (D (ab z)).getD j 0 ∧ s1 * (D (ab z)).getD j 0 ≤ 1048576 ∧
      -9223372036854775808 ≤ N * 1048576 + s1 * (D (ab z)).getD j 0 ∧ N * 1048576 + s1 * (D (ab z)).getD j 0 ≤ 9223372036854775807 ∧ N * 1048576 + s1 * (D (ab z)).getD j 0 = s1 * nv ((D (ab z)).drop j) := by
  have hd := (Dig_D (ab z)).getD' j
  have h2 := nv_drop (D (ab z)) j
  rw [nv_D (ab_nonneg z), nv_drop_any] at h2
  have h3 := (Dig_D (ab z)).take_lt j
  have h4 := ((Dig_D (ab z)).drop (j + 1)).nv_nonneg
  have h5 := pw_pos j
  rw [nv_drop_any (D (ab z)) j]
  have hzn : z ≠ 0 := fun e => by
    rw [e, ab_zero, D_zero] at hj
    simp at hj
  obtain ⟨U, hU⟩ : ∃ U, nv ((D (ab z)).drop (j + 1)) = U := ⟨_, rfl⟩
  rw [hU] at h2 h4 hN ⊢
  obtain ⟨d, hdd⟩ : ∃ d, (D (ab z)).getD j 0 = d := ⟨_, rfl⟩
  rw [hdd] at hd h2 ⊢
  have h6 : 1 * (d + 1048576 * U) ≤ pw j * (d + 1048576 * U) := Int.mul_le_mul_of_nonneg_right (by omega) (by omega)
  have hab : ab z = if z < 0 then -z else z := by unfold ab; split <;> omega
  have hsg : s1 = if z < 0 then -1 else 1 := by
    rw [hs]
    unfold sgn
    split <;> first | rfl | simp [hzn]
  split at hab <;> rename_i hz
  · rw [if_pos hz] at hsg
    subst hsg
    omega
  · rw [if_neg hz] at hsg
    subst hsg
    omega
theorem below_drN {B : Nat} {w w' : World} (h : Below B w w') (n : Nat) : Below B w (w'.drewN n) := ⟨h.os, h.tape, h.output, h.size, h.block⟩

theorem int_small {y : Int} (h0 : -9223372036854775808 ≤ y) (h1 : y ≤ 9223372036854775807) : ab y < pw 60 := by
  have h2 := pw_le (a := 4) (b := 60) (by omega)
  rw [pw4] at h2
  unfold ab
  omega

end Go.Proofs.Ytlbjaimgoiimgaa

namespace Go.Proofs.Ytlbjaimgoiimgaa
open Go.RowKit

/-- t is s without its sign. -/
theorem num_text {s : ByteArray} {z : Int} (h : bts s = Lib.itoa z) : NumT (Lib.trimPrefix (bts s) [45]) ∧ Lib.hasPrefix (bts s) [45] = decide (z < 0) ∧ dv (Lib.trimPrefix (bts s) [45]) = (ab z).toNat := by
  obtain ⟨h1, h2⟩ := cut_itoa z
  rw [h, h1, h2]
  exact ⟨dd_numT _, rfl, dv_dd _⟩
theorem num_not (s : ByteArray) (h : ¬ NumT (Lib.trimPrefix (bts s) [45]) ∨ (Lib.hasPrefix (bts s) [45] = true ∧ Lib.trimPrefix (bts s) [45] = [48])) : ∀ z, bts s ≠ Lib.itoa z := fun z hz => by
  obtain ⟨h1, h2, h3⟩ := num_text hz
  rcases h with h | ⟨h4, h5⟩
  · exact h h1
  · rw [h5] at h3
    rw [h2] at h4
    have h6 : dv [48] = 0 := rfl
    rw [h6] at h3
    have h7 := of_decide_eq_true h4
    unfold ab at h3
    omega
def ReadR (s : ByteArray) (Z e : Int) : Prop := (∃ z, bts s = Lib.itoa z ∧ Z = fitz z ∧ e = fite z) ∨ ((∀ z, bts s ≠ Lib.itoa z) ∧ Z = 0 ∧ e = 2)
theorem ReadR.bad {s : ByteArray} {Z e : Int} (h : ReadR s Z e) (hb : ¬ NumT (Lib.trimPrefix (bts s) [45]) ∨ (Lib.hasPrefix (bts s) [45] = true ∧ Lib.trimPrefix (bts s) [45] = [48])) : Z = 0 ∧ e = 2 := by
  rcases h with ⟨z, hz, _⟩ | ⟨_, h⟩
  · exact absurd hz (num_not s hb z)
  · exact h
theorem ReadR.good {s : ByteArray} {Z e : Int} (h : ReadR s Z e) (hn : NumT (Lib.trimPrefix (bts s) [45])) (hp : ¬ (Lib.hasPrefix (bts s) [45] = true ∧ Lib.trimPrefix (bts s) [45] = [48])) :
    ∃ z, Z = fitz z ∧ e = fite z ∧ ab z = dv (Lib.trimPrefix (bts s) [45]) ∧ z = (if Lib.hasPrefix (bts s) [45] = true then -1 else 1) * (dv (Lib.trimPrefix (bts s) [45]) : Int) := by
  rcases h with ⟨z, hz, h1, h2⟩ | ⟨h, _⟩
  · obtain ⟨_, h4, h5⟩ := num_text hz
    refine ⟨z, h1, h2, ?_, ?_⟩
    · have := ab_nonneg z
      omega
    · rw [h4, h5]
      unfold ab
      by_cases hz0 : z < 0
      · simp [hz0]; omega
      · simp [hz0]; omega
  · obtain ⟨z, hz⟩ := itoa_of hn hp
    exact absurd hz (h z)
theorem cut_minus {s : ByteArray} (hp : 0 < s.size) (h : (s[0].toNat : Int) = 45) : Lib.hasPrefix (bts s) [45] = true ∧ bts (s.extract 1 s.size) = Lib.trimPrefix (bts s) [45] ∧ s.toList ≠ [48] := by
  have hc : ∃ r, bts s = 45 :: r := by
    have h0 := bts_get s 0 hp
    cases hb : bts s with
    | nil => rw [hb] at h0; simp at h0
    | cons c r =>
      rw [hb] at h0
      simp at h0
      refine ⟨r, ?_⟩
      rw [h0]
      congr 1
      apply UInt8.toNat_inj.1
      show _ = 45
      omega
  obtain ⟨r, hr⟩ := hc
  refine ⟨by rw [hr]; rfl, ?_, fun e => ?_⟩
  · have h1 : bts (s.extract 1 s.size) = (bts s).drop 1 := by
      unfold bts
      rw [ByteArray.data_extract]
      simp
      exact List.take_of_length_le (by simp)
    rw [h1, hr]
    rfl
  · have e : bts s = [48] := by rw [ByteArray.toList_eq] at e; exact e
    rw [hr] at e
    simp at e
theorem hpre_cons {c : UInt8} {r : List UInt8} (h : Lib.hasPrefix (c :: r) [45] = true) : c = 45 := by
  simp [Lib.hasPrefix] at h
  exact h.symm
theorem cut_none {s : ByteArray} (h : ∀ hp : 0 < s.size, (s[0].toNat : Int) ≠ 45) : Lib.hasPrefix (bts s) [45] = false ∧ bts s = Lib.trimPrefix (bts s) [45] := by
  cases hb : bts s with
  | nil => exact ⟨rfl, rfl⟩
  | cons c r =>
    have hp : 0 < s.size := by rw [← bts_len, hb]; simp
    have h0 := bts_get s 0 hp
    rw [hb] at h0
    simp at h0
    have hc : ¬ c = 45 := fun e => h hp (by rw [← h0, e]; rfl)
    have hh : Lib.hasPrefix (c :: r) [45] = false := by
      rcases hq : Lib.hasPrefix (c :: r) [45] with _ | _
      · rfl
      · exact absurd (hpre_cons hq) hc
    refine ⟨hh, ?_⟩
    unfold Lib.trimPrefix
    rw [hh]
    rfl
theorem dv_take_le {l : List UInt8} (k : Nat) : dv (l.take k) ≤ dv l := by
  have h1 := dv_append (l.take k) (l.drop k)
  rw [List.take_append_drop] at h1
  have h2 : 1 ≤ 10 ^ (l.drop k).length := Nat.pow_pos (by decide)
  have h3 := Nat.mul_le_mul_left (dv (l.take k)) h2
  omega

theorem sv_lit {w : World} {g : Nat} {x : Int} (h : Blk w g 3 #[.int .i64 x]) : Sv w (.slice (some ⟨g, 0, none⟩) 1 1) [x] := ⟨_, 1, rfl, by simp, by omega, fun k hk => by
  have : k = 0 := by simpa using hk
  subst this
  exact ⟨g, 0, rfl, h.lt, h.cell 0⟩⟩
/-- The three calls of a round of Read. -/
theorem read_calls (wr : World) (u : Value) (X d : Int) (hu : Sv wr u (D X)) (hX0 : 0 ≤ X) (hX1 : X < pw 60) (hd0 : 0 ≤ d) (hd1 : d < 10) :
    (∀ (w' : World) (g : Nat), Below wr.heap.size wr w' → Blk w' g 3 #[.int .i64 10] → Calls Try.prog 93 #[u, .slice (some ⟨g, 0, none⟩) 1 1] w' fun e w'' => ∃ v, e = .returned v ∧ OwnI w'' w'.heap.size v (D (X * 10)) ∧ Below w'.heap.size w' w'') ∧
    (∀ (w' : World) (g : Nat), Blk w' g 3 #[.int .i64 d] → Calls Try.prog 81 #[.slice (some ⟨g, 0, none⟩) 1 1] w' fun e w'' => ∃ v, e = .returned v ∧ OwnI w'' w'.heap.size v (D d) ∧ Below w'.heap.size w' w'') ∧
    (∀ (w' : World) (v1 v2 : Value), Sv w' v1 (D (X * 10)) → Sv w' v2 (D d) → Calls Try.prog 79 #[v1, v2] w' fun e w'' => ∃ v, e = .returned v ∧ OwnI w'' w'.heap.size v (D (X * 10 + d)) ∧ Below w'.heap.size w' w'') ∧ True := by
  have hd : Dig [d] := fun y hy => by simp at hy; subst hy; omega
  have h10 : Dig [10] := fun y hy => by simp at hy; subst hy; omega
  have n1 : nv [10] = 10 := by simp [nv]
  have n2 : nv [d] = d := by simp [nv]
  have l1 : (D X).length ≤ 60 := (D_len_le hX0).2 hX1
  have hp : pw 61 = 1048576 * pw 60 := pw_succ 60
  have l2 : (D (X * 10)).length ≤ 61 := (D_len_le (by omega)).2 (by omega)
  have l3 : (D d).length ≤ 60 := (D_len_le hd0).2 (by
    have h2 := pw_le (a := 1) (b := 60) (by omega)
    have h1 : pw 1 = 1048576 := by decide
    omega)
  refine ⟨fun w' g hb hk => ?_, fun w' g hk => ?_, fun w' v1 v2 h1 h2 => ?_, trivial⟩
  · have h := rtimes_any (D X) [10] u _ w' (hu.later hb) (sv_lit hk) (Dig_D X) h10 (by omega) (by simp)
    rw [nv_D hX0, n1] at h
    exact h
  · have h := rtrim_any [d] _ w' (sv_lit hk) hd (by simp)
    rw [n2] at h
    exact h
  · have h := rplus_any (D (X * 10)) (D d) v1 v2 w' h1 h2 (Dig_D _) (Dig_D _) (by omega) (by omega)
    rw [nv_D (by omega), nv_D hd0] at h
    exact h

end Go.Proofs.Ytlbjaimgoiimgaa

namespace Go.Proofs.Ytlbjaimgoiimgaa
open Go.RowKit

set_option maxRecDepth 100000 in
set_option maxHeartbeats 2000000 in
theorem sameA_any {s1 s2 : Int} {l1 l2 : List Int} {A1 A2 : Option Addr} {n1 c1 n2 c2 : Nat} (w : World) (h1 : Ar w s1 l1 A1 n1 c1) (h2 : Ar w s2 l2 A2 n2 c2) :
    Calls Try.prog 34 #[.agg #[.int .i64 s1, .slice A1 n1 c1], .agg #[.int .i64 s2, .slice A2 n2 c2]] w fun e w' => e = .returned (.bool (decide (s1 = s2 ∧ l1 = l2))) ∧ Below w.heap.size w w' := by
  obtain ⟨rfl, hI1, hc1, hm1⟩ := h1
  obtain ⟨rfl, hI2, hc2, hm2⟩ := h2
  have heq := fun (w' : World) (hb : Below w.heap.size w w') => equal_any l1 l2 A1 A2 c1 c2 w.heap.size w' (hI1.below hb) (hI2.below hb) (by omega) (by omega)
  have hres : ∀ b : Bool, (s1 = s2 → b = decide (l1 = l2)) → (s1 ≠ s2 → b = false) → b = decide (s1 = s2 ∧ l1 = l2) := by
    intro b h1 h2
    by_cases hs : s1 = s2
    · rw [h1 hs, decide_eq_decide]
      exact ⟨fun h => ⟨hs, h⟩, fun h => h.2⟩
    · rw [h2 hs]
      symm
      rw [decide_eq_false_iff_not]
      exact fun h => hs h.1
  have hbx : Below w.heap.size w ((w.alloc (.cells #[.int .i64 (s1), .slice A1 l1.length c1] 38)).alloc (.cells #[.int .i64 (s2), .slice A2 l2.length c2] 38)) := ((Below.refl _ _).alloc (Nat.le_refl _) _).alloc (by simp) _
  obtain ⟨dd, hdd⟩ : ∃ b, decide (l1 = l2) = b := ⟨_, rfl⟩
  rw [hdd] at heq hres
  obtain ⟨n1, hn1⟩ : ∃ n, l1.length = n := ⟨_, rfl⟩
  obtain ⟨n2, hn2⟩ : ∃ n, l2.length = n := ⟨_, rfl⟩
  rw [hn1, hn2] at heq hbx
  rw [hn1, hn2]
  obtain ⟨s1, hs1e⟩ : ∃ s, s1 = s := ⟨_, rfl⟩
  obtain ⟨s2, hs2e⟩ : ∃ s, s2 = s := ⟨_, rfl⟩
  rw [hs1e, hs2e] at hres hbx
  rw [hs1e, hs2e]
  have HE := Lib.hid heq; clear heq
  have HRS := Lib.hid hres; clear hres
  have HBX := Lib.hid hbx; clear hbx
  clear hn1 hn2 hs1e hs2e hI1 hI2 hc1 hc2 hdd
  by_cases hss : s1 = s2
  · have hfin := HRS.out dd (fun _ => rfl) (fun h => absurd hss h)
    subst hss
    rw [← hfin]
    clear hfin
    go_enter Try.func34, Try.ntmps34
    go_wp2_with fail
    (with_reducible refine (HE.out _ HBX.out).mono ?_)
    rintro e w4 ⟨rfl, q, rfl⟩
    go_wp2_with fail
    go_ret
    exact ⟨rfl, below_drewN HBX.out _⟩
  · have hfin := HRS.out false (fun h => absurd h hss) (fun _ => rfl)
    have hb : (s1 == s2) = false := by simpa using hss
    rw [← hfin]
    clear hfin
    go_enter Try.func34, Try.ntmps34
    go_wp2_with fail
    go_ret
    exact ⟨rfl, HBX.out⟩


theorem refSameA_len {s1 s2 : Int} {l1 l2 : List Int} (h : l1.length ≠ l2.length) : decide (s1 = s2 ∧ l1 = l2) = false := by
  rw [decide_eq_false_iff_not]; rintro ⟨_, rfl⟩; exact h rfl
theorem refSameA_sgn {s1 s2 : Int} {l1 l2 : List Int} (h : s1 ≠ s2) : decide (s1 = s2 ∧ l1 = l2) = false := by
  rw [decide_eq_false_iff_not]; rintro ⟨h1, _⟩; exact h h1

end Go.Proofs.Ytlbjaimgoiimgaa
