/- Walks: Gcd where an argument is not right. Walks: the reference's Add, Mul, Gcd and big's Add, Sub, Mul where an argument is not right. Printed by a program (rbad4.py) from Fc. Walks: the reference's Div by zero; Div of both where an argument is not right. Printed by a program (rdiv4.py) from Fc and Yb. -/
import Derived.Test.YtkjpfnbdlbnbkaaGreatDoorXao
import Derived.Test.YtkjpfnbdlbnbkaaGreatDoorXas

namespace Go.Proofs.YtkjpfnbdlbnbkaaGreatDoor
open Go.RowKit

set_option maxRecDepth 100000 in
set_option maxHeartbeats 2000000 in
theorem gcd_bad {s1 s2 : Int} {l1 l2 : List Int} {A1 A2 : Option Addr} {n1 c1 n2 c2 : Nat} {w : World} (h1 : Ar w s1 l1 A1 n1 c1) (h2 : Ar w s2 l2 A2 n2 c2) (hb : ¬ (RightP s1 l1 ∧ RightP s2 l2)) :
    Calls Tryz.prog 20 #[.agg #[.int .i64 s1, .slice A1 n1 c1], .agg #[.int .i64 s2, .slice A2 n2 c2]] w fun e w' => e = .returned (.tuple #[.agg #[.int .i64 0, .slice none 0 0], .int .i64 1]) ∧ Below w.heap.size w w' := by
  have hH := fun (w' : World) (h : Below w.heap.size w w') (b : Bool) => (h1.later h).right b
  have hG := fun (w' : World) (h : Below w.heap.size w w') (b : Bool) => (h2.later h).right b
  have HH := Lib.hid hH; clear hH
  have HG := Lib.hid hG; clear hG
  have HB := Lib.hid hb; clear hb
  by_cases hr : RightP s1 l1
  · have hn : ¬ RightP s2 l2 := fun h => HB.out ⟨hr, h⟩
    have HR := Lib.hid hr; clear hr
    have HN := Lib.hid hn; clear hn
    clear h1 h2
    go_enter Tryz.func20, Tryz.ntmps20
    go_wp2_with fail
    obtain ⟨w1, hw1, hb1, k1, k2, k3, _⟩ := boxes3 w #[.int .i64 s1, .slice A1 n1 c1] #[.int .i64 s2, .slice A2 n2 c2] #[.int .i64 0, .slice none 0 0]
    rw [← hw1]
    clear hw1
    (with_reducible refine (HH.out w1 hb1 true (by simp [HR.out])).mono ?_)
    rintro e w2 ⟨rfl, hb2⟩
    have k2 := k2.below hb2 k2.lt
    have k3 := k3.below hb2 k3.lt
    have hb2 := hb1.trans (hb2.mono hb1.size)
    have j1 : w2.cell? ⟨w.heap.size + 1, 0, none⟩ = some (.int .i64 s2) := k2.cell 0
    have j2 : w2.cell? ⟨w.heap.size + 1, 1, none⟩ = some (.slice A2 n2 c2) := k2.cell 1
    go_wp2_with fail
    clear j1 j2
    (with_reducible refine (HG.out w2 hb2 false (by simp [HN.out])).mono ?_)
    rintro e w3 ⟨rfl, hb3⟩
    have k3 := k3.below hb3 k3.lt
    have hb3 := hb2.trans (hb3.mono hb2.size)
    clear k1 k2 hb1 hb2 HH HG
    obtain ⟨g, hg⟩ : ∃ g, w.heap.size + 1 + 1 = g := ⟨_, rfl⟩
    have hgw : w.heap.size ≤ g := by omega
    rw [hg] at k3 ⊢
    clear hg
    have c30 : w3.cell? ⟨g, 0, none⟩ = some (.int .i64 0) := k3.cell 0
    have c31 : w3.cell? ⟨g, 1, none⟩ = some (.slice none 0 0) := k3.cell 1
    have f30 := k3.frozen 0
    have f31 := k3.frozen 1
    have hbs := k3.set2 (.int .i64 0) (.slice none 0 0)
    have d0 := hbs.cell 0
    have d1 := hbs.cell 1
    simp at d0 d1
    have hb9 := (hb3.setCell (p := ⟨g, 0, none⟩) hgw (.int .i64 0)).setCell (p := ⟨g, 1, none⟩) hgw (.slice none 0 0)
    go_wp2_with fail
    refine bodyPost_ret (v := .tuple #[.agg #[.int .i64 0, .slice none 0 0], .int .i64 1]) (by simp [results, Tryz.results20, go_sem, d0, d1]) rfl ?_
    exact ⟨rfl, hb9⟩
  · have HN := Lib.hid hr; clear hr
    clear h1 h2
    go_enter Tryz.func20, Tryz.ntmps20
    go_wp2_with fail
    obtain ⟨w1, hw1, hb1, k1, k2, k3, _⟩ := boxes3 w #[.int .i64 s1, .slice A1 n1 c1] #[.int .i64 s2, .slice A2 n2 c2] #[.int .i64 0, .slice none 0 0]
    rw [← hw1]
    clear hw1
    (with_reducible refine (HH.out w1 hb1 false (by simp [HN.out])).mono ?_)
    rintro e w2 ⟨rfl, hb2⟩
    have k3 := k3.below hb2 k3.lt
    have hb2 := hb1.trans (hb2.mono hb1.size)
    clear k1 k2 hb1 HH HG
    obtain ⟨g, hg⟩ : ∃ g, w.heap.size + 1 + 1 = g := ⟨_, rfl⟩
    have hgw : w.heap.size ≤ g := by omega
    rw [hg] at k3 ⊢
    clear hg
    have c30 : w2.cell? ⟨g, 0, none⟩ = some (.int .i64 0) := k3.cell 0
    have c31 : w2.cell? ⟨g, 1, none⟩ = some (.slice none 0 0) := k3.cell 1
    have f30 := k3.frozen 0
    have f31 := k3.frozen 1
    have hbs := k3.set2 (.int .i64 0) (.slice none 0 0)
    have d0 := hbs.cell 0
    have d1 := hbs.cell 1
    simp at d0 d1
    have hb9 := (hb2.setCell (p := ⟨g, 0, none⟩) hgw (.int .i64 0)).setCell (p := ⟨g, 1, none⟩) hgw (.slice none 0 0)
    go_wp2_with fail
    refine bodyPost_ret (v := .tuple #[.agg #[.int .i64 0, .slice none 0 0], .int .i64 1]) (by simp [results, Tryz.results20, go_sem, d0, d1]) rfl ?_
    exact ⟨rfl, hb9⟩

end Go.Proofs.YtkjpfnbdlbnbkaaGreatDoor

namespace Go.Proofs.YtkjpfnbdlbnbkaaGreatDoor
open Go.RowKit

set_option maxRecDepth 100000 in
set_option maxHeartbeats 2000000 in
theorem radd_bad {s1 s2 : Int} {l1 l2 : List Int} {A1 A2 : Option Addr} {n1 c1 n2 c2 : Nat} {w : World} (h1 : Ar w s1 l1 A1 n1 c1) (h2 : Ar w s2 l2 A2 n2 c2) (hb : ¬ (RightP s1 l1 ∧ RightP s2 l2)) :
    Calls Tryz.prog 8 #[.agg #[.int .i64 s1, .slice A1 n1 c1], .agg #[.int .i64 s2, .slice A2 n2 c2]] w fun e w' => e = .returned (.tuple #[.agg #[.int .i64 0, .slice none 0 0], .int .i64 1]) ∧ Below w.heap.size w w' := by
  have hH := fun (w' : World) (h : Below w.heap.size w w') (b : Bool) => rRight_any s1 l1 A1 n1 c1 w' (h1.later h) b
  have hG := fun (w' : World) (h : Below w.heap.size w w') (b : Bool) => rRight_any s2 l2 A2 n2 c2 w' (h2.later h) b
  have HH := Lib.hid hH; clear hH
  have HG := Lib.hid hG; clear hG
  have HB := Lib.hid hb; clear hb
  by_cases hr : RightP s1 l1
  · have hn : ¬ RightP s2 l2 := fun h => HB.out ⟨hr, h⟩
    have HR := Lib.hid hr; clear hr
    have HN := Lib.hid hn; clear hn
    clear h1 h2
    go_enter Tryz.func8, Tryz.ntmps8
    go_wp2_with fail
    obtain ⟨w1, hw1, hb1, k1, k2, k3, _⟩ := boxes3 w #[.int .i64 s1, .slice A1 n1 c1] #[.int .i64 s2, .slice A2 n2 c2] #[.int .i64 0, .slice none 0 0]
    rw [← hw1]
    clear hw1
    (with_reducible refine (HH.out w1 hb1 true (by simp [HR.out])).mono ?_)
    rintro e w2 ⟨rfl, hb2⟩
    have k2 := k2.below hb2 k2.lt
    have k3 := k3.below hb2 k3.lt
    have hb2 := hb1.trans (hb2.mono hb1.size)
    have j1 : w2.cell? ⟨w.heap.size + 1, 0, none⟩ = some (.int .i64 s2) := k2.cell 0
    have j2 : w2.cell? ⟨w.heap.size + 1, 1, none⟩ = some (.slice A2 n2 c2) := k2.cell 1
    go_wp2_with fail
    clear j1 j2
    (with_reducible refine (HG.out w2 hb2 false (by simp [HN.out])).mono ?_)
    rintro e w3 ⟨rfl, hb3⟩
    have k3 := k3.below hb3 k3.lt
    have hb3 := hb2.trans (hb3.mono hb2.size)
    clear k1 k2 hb1 hb2 HH HG
    obtain ⟨g, hg⟩ : ∃ g, w.heap.size + 1 + 1 = g := ⟨_, rfl⟩
    have hgw : w.heap.size ≤ g := by omega
    rw [hg] at k3 ⊢
    clear hg
    have c30 : w3.cell? ⟨g, 0, none⟩ = some (.int .i64 0) := k3.cell 0
    have c31 : w3.cell? ⟨g, 1, none⟩ = some (.slice none 0 0) := k3.cell 1
    have f30 := k3.frozen 0
    have f31 := k3.frozen 1
    have hbs := k3.set2 (.int .i64 0) (.slice none 0 0)
    have d0 := hbs.cell 0
    have d1 := hbs.cell 1
    simp at d0 d1
    have hb9 := (hb3.setCell (p := ⟨g, 0, none⟩) hgw (.int .i64 0)).setCell (p := ⟨g, 1, none⟩) hgw (.slice none 0 0)
    go_wp2_with fail
    refine bodyPost_ret (v := .tuple #[.agg #[.int .i64 0, .slice none 0 0], .int .i64 1]) (by simp [results, Tryz.results8, go_sem, d0, d1]) rfl ?_
    exact ⟨rfl, hb9⟩
  · have HN := Lib.hid hr; clear hr
    clear h1 h2
    go_enter Tryz.func8, Tryz.ntmps8
    go_wp2_with fail
    obtain ⟨w1, hw1, hb1, k1, k2, k3, _⟩ := boxes3 w #[.int .i64 s1, .slice A1 n1 c1] #[.int .i64 s2, .slice A2 n2 c2] #[.int .i64 0, .slice none 0 0]
    rw [← hw1]
    clear hw1
    (with_reducible refine (HH.out w1 hb1 false (by simp [HN.out])).mono ?_)
    rintro e w2 ⟨rfl, hb2⟩
    have k3 := k3.below hb2 k3.lt
    have hb2 := hb1.trans (hb2.mono hb1.size)
    clear k1 k2 hb1 HH HG
    obtain ⟨g, hg⟩ : ∃ g, w.heap.size + 1 + 1 = g := ⟨_, rfl⟩
    have hgw : w.heap.size ≤ g := by omega
    rw [hg] at k3 ⊢
    clear hg
    have c30 : w2.cell? ⟨g, 0, none⟩ = some (.int .i64 0) := k3.cell 0
    have c31 : w2.cell? ⟨g, 1, none⟩ = some (.slice none 0 0) := k3.cell 1
    have f30 := k3.frozen 0
    have f31 := k3.frozen 1
    have hbs := k3.set2 (.int .i64 0) (.slice none 0 0)
    have d0 := hbs.cell 0
    have d1 := hbs.cell 1
    simp at d0 d1
    have hb9 := (hb2.setCell (p := ⟨g, 0, none⟩) hgw (.int .i64 0)).setCell (p := ⟨g, 1, none⟩) hgw (.slice none 0 0)
    go_wp2_with fail
    refine bodyPost_ret (v := .tuple #[.agg #[.int .i64 0, .slice none 0 0], .int .i64 1]) (by simp [results, Tryz.results8, go_sem, d0, d1]) rfl ?_
    exact ⟨rfl, hb9⟩

set_option maxRecDepth 100000 in
set_option maxHeartbeats 2000000 in
theorem rmul_bad {s1 s2 : Int} {l1 l2 : List Int} {A1 A2 : Option Addr} {n1 c1 n2 c2 : Nat} {w : World} (h1 : Ar w s1 l1 A1 n1 c1) (h2 : Ar w s2 l2 A2 n2 c2) (hb : ¬ (RightP s1 l1 ∧ RightP s2 l2)) :
    Calls Tryz.prog 12 #[.agg #[.int .i64 s1, .slice A1 n1 c1], .agg #[.int .i64 s2, .slice A2 n2 c2]] w fun e w' => e = .returned (.tuple #[.agg #[.int .i64 0, .slice none 0 0], .int .i64 1]) ∧ Below w.heap.size w w' := by
  have hH := fun (w' : World) (h : Below w.heap.size w w') (b : Bool) => rRight_any s1 l1 A1 n1 c1 w' (h1.later h) b
  have hG := fun (w' : World) (h : Below w.heap.size w w') (b : Bool) => rRight_any s2 l2 A2 n2 c2 w' (h2.later h) b
  have HH := Lib.hid hH; clear hH
  have HG := Lib.hid hG; clear hG
  have HB := Lib.hid hb; clear hb
  by_cases hr : RightP s1 l1
  · have hn : ¬ RightP s2 l2 := fun h => HB.out ⟨hr, h⟩
    have HR := Lib.hid hr; clear hr
    have HN := Lib.hid hn; clear hn
    clear h1 h2
    go_enter Tryz.func12, Tryz.ntmps12
    go_wp2_with fail
    obtain ⟨w1, hw1, hb1, k1, k2, k3, _⟩ := boxes3 w #[.int .i64 s1, .slice A1 n1 c1] #[.int .i64 s2, .slice A2 n2 c2] #[.int .i64 0, .slice none 0 0]
    rw [← hw1]
    clear hw1
    (with_reducible refine (HH.out w1 hb1 true (by simp [HR.out])).mono ?_)
    rintro e w2 ⟨rfl, hb2⟩
    have k2 := k2.below hb2 k2.lt
    have k3 := k3.below hb2 k3.lt
    have hb2 := hb1.trans (hb2.mono hb1.size)
    have j1 : w2.cell? ⟨w.heap.size + 1, 0, none⟩ = some (.int .i64 s2) := k2.cell 0
    have j2 : w2.cell? ⟨w.heap.size + 1, 1, none⟩ = some (.slice A2 n2 c2) := k2.cell 1
    go_wp2_with fail
    clear j1 j2
    (with_reducible refine (HG.out w2 hb2 false (by simp [HN.out])).mono ?_)
    rintro e w3 ⟨rfl, hb3⟩
    have k3 := k3.below hb3 k3.lt
    have hb3 := hb2.trans (hb3.mono hb2.size)
    clear k1 k2 hb1 hb2 HH HG
    obtain ⟨g, hg⟩ : ∃ g, w.heap.size + 1 + 1 = g := ⟨_, rfl⟩
    have hgw : w.heap.size ≤ g := by omega
    rw [hg] at k3 ⊢
    clear hg
    have c30 : w3.cell? ⟨g, 0, none⟩ = some (.int .i64 0) := k3.cell 0
    have c31 : w3.cell? ⟨g, 1, none⟩ = some (.slice none 0 0) := k3.cell 1
    have f30 := k3.frozen 0
    have f31 := k3.frozen 1
    have hbs := k3.set2 (.int .i64 0) (.slice none 0 0)
    have d0 := hbs.cell 0
    have d1 := hbs.cell 1
    simp at d0 d1
    have hb9 := (hb3.setCell (p := ⟨g, 0, none⟩) hgw (.int .i64 0)).setCell (p := ⟨g, 1, none⟩) hgw (.slice none 0 0)
    go_wp2_with fail
    refine bodyPost_ret (v := .tuple #[.agg #[.int .i64 0, .slice none 0 0], .int .i64 1]) (by simp [results, Tryz.results12, go_sem, d0, d1]) rfl ?_
    exact ⟨rfl, hb9⟩
  · have HN := Lib.hid hr; clear hr
    clear h1 h2
    go_enter Tryz.func12, Tryz.ntmps12
    go_wp2_with fail
    obtain ⟨w1, hw1, hb1, k1, k2, k3, _⟩ := boxes3 w #[.int .i64 s1, .slice A1 n1 c1] #[.int .i64 s2, .slice A2 n2 c2] #[.int .i64 0, .slice none 0 0]
    rw [← hw1]
    clear hw1
    (with_reducible refine (HH.out w1 hb1 false (by simp [HN.out])).mono ?_)
    rintro e w2 ⟨rfl, hb2⟩
    have k3 := k3.below hb2 k3.lt
    have hb2 := hb1.trans (hb2.mono hb1.size)
    clear k1 k2 hb1 HH HG
    obtain ⟨g, hg⟩ : ∃ g, w.heap.size + 1 + 1 = g := ⟨_, rfl⟩
    have hgw : w.heap.size ≤ g := by omega
    rw [hg] at k3 ⊢
    clear hg
    have c30 : w2.cell? ⟨g, 0, none⟩ = some (.int .i64 0) := k3.cell 0
    have c31 : w2.cell? ⟨g, 1, none⟩ = some (.slice none 0 0) := k3.cell 1
    have f30 := k3.frozen 0
    have f31 := k3.frozen 1
    have hbs := k3.set2 (.int .i64 0) (.slice none 0 0)
    have d0 := hbs.cell 0
    have d1 := hbs.cell 1
    simp at d0 d1
    have hb9 := (hb2.setCell (p := ⟨g, 0, none⟩) hgw (.int .i64 0)).setCell (p := ⟨g, 1, none⟩) hgw (.slice none 0 0)
    go_wp2_with fail
    refine bodyPost_ret (v := .tuple #[.agg #[.int .i64 0, .slice none 0 0], .int .i64 1]) (by simp [results, Tryz.results12, go_sem, d0, d1]) rfl ?_
    exact ⟨rfl, hb9⟩

set_option maxRecDepth 100000 in
set_option maxHeartbeats 2000000 in
theorem rgcd_bad {s1 s2 : Int} {l1 l2 : List Int} {A1 A2 : Option Addr} {n1 c1 n2 c2 : Nat} {w : World} (h1 : Ar w s1 l1 A1 n1 c1) (h2 : Ar w s2 l2 A2 n2 c2) (hb : ¬ (RightP s1 l1 ∧ RightP s2 l2)) :
    Calls Tryz.prog 21 #[.agg #[.int .i64 s1, .slice A1 n1 c1], .agg #[.int .i64 s2, .slice A2 n2 c2]] w fun e w' => e = .returned (.tuple #[.agg #[.int .i64 0, .slice none 0 0], .int .i64 1]) ∧ Below w.heap.size w w' := by
  have hH := fun (w' : World) (h : Below w.heap.size w w') (b : Bool) => rRight_any s1 l1 A1 n1 c1 w' (h1.later h) b
  have hG := fun (w' : World) (h : Below w.heap.size w w') (b : Bool) => rRight_any s2 l2 A2 n2 c2 w' (h2.later h) b
  have HH := Lib.hid hH; clear hH
  have HG := Lib.hid hG; clear hG
  have HB := Lib.hid hb; clear hb
  by_cases hr : RightP s1 l1
  · have hn : ¬ RightP s2 l2 := fun h => HB.out ⟨hr, h⟩
    have HR := Lib.hid hr; clear hr
    have HN := Lib.hid hn; clear hn
    clear h1 h2
    go_enter Tryz.func21, Tryz.ntmps21
    go_wp2_with fail
    obtain ⟨w1, hw1, hb1, k1, k2, k3, _⟩ := boxes3 w #[.int .i64 s1, .slice A1 n1 c1] #[.int .i64 s2, .slice A2 n2 c2] #[.int .i64 0, .slice none 0 0]
    rw [← hw1]
    clear hw1
    (with_reducible refine (HH.out w1 hb1 true (by simp [HR.out])).mono ?_)
    rintro e w2 ⟨rfl, hb2⟩
    have k2 := k2.below hb2 k2.lt
    have k3 := k3.below hb2 k3.lt
    have hb2 := hb1.trans (hb2.mono hb1.size)
    have j1 : w2.cell? ⟨w.heap.size + 1, 0, none⟩ = some (.int .i64 s2) := k2.cell 0
    have j2 : w2.cell? ⟨w.heap.size + 1, 1, none⟩ = some (.slice A2 n2 c2) := k2.cell 1
    go_wp2_with fail
    clear j1 j2
    (with_reducible refine (HG.out w2 hb2 false (by simp [HN.out])).mono ?_)
    rintro e w3 ⟨rfl, hb3⟩
    have k3 := k3.below hb3 k3.lt
    have hb3 := hb2.trans (hb3.mono hb2.size)
    clear k1 k2 hb1 hb2 HH HG
    obtain ⟨g, hg⟩ : ∃ g, w.heap.size + 1 + 1 = g := ⟨_, rfl⟩
    have hgw : w.heap.size ≤ g := by omega
    rw [hg] at k3 ⊢
    clear hg
    have c30 : w3.cell? ⟨g, 0, none⟩ = some (.int .i64 0) := k3.cell 0
    have c31 : w3.cell? ⟨g, 1, none⟩ = some (.slice none 0 0) := k3.cell 1
    have f30 := k3.frozen 0
    have f31 := k3.frozen 1
    have hbs := k3.set2 (.int .i64 0) (.slice none 0 0)
    have d0 := hbs.cell 0
    have d1 := hbs.cell 1
    simp at d0 d1
    have hb9 := (hb3.setCell (p := ⟨g, 0, none⟩) hgw (.int .i64 0)).setCell (p := ⟨g, 1, none⟩) hgw (.slice none 0 0)
    go_wp2_with fail
    refine bodyPost_ret (v := .tuple #[.agg #[.int .i64 0, .slice none 0 0], .int .i64 1]) (by simp [results, Tryz.results21, go_sem, d0, d1]) rfl ?_
    exact ⟨rfl, hb9⟩
  · have HN := Lib.hid hr; clear hr
    clear h1 h2
    go_enter Tryz.func21, Tryz.ntmps21
    go_wp2_with fail
    obtain ⟨w1, hw1, hb1, k1, k2, k3, _⟩ := boxes3 w #[.int .i64 s1, .slice A1 n1 c1] #[.int .i64 s2, .slice A2 n2 c2] #[.int .i64 0, .slice none 0 0]
    rw [← hw1]
    clear hw1
    (with_reducible refine (HH.out w1 hb1 false (by simp [HN.out])).mono ?_)
    rintro e w2 ⟨rfl, hb2⟩
    have k3 := k3.below hb2 k3.lt
    have hb2 := hb1.trans (hb2.mono hb1.size)
    clear k1 k2 hb1 HH HG
    obtain ⟨g, hg⟩ : ∃ g, w.heap.size + 1 + 1 = g := ⟨_, rfl⟩
    have hgw : w.heap.size ≤ g := by omega
    rw [hg] at k3 ⊢
    clear hg
    have c30 : w2.cell? ⟨g, 0, none⟩ = some (.int .i64 0) := k3.cell 0
    have c31 : w2.cell? ⟨g, 1, none⟩ = some (.slice none 0 0) := k3.cell 1
    have f30 := k3.frozen 0
    have f31 := k3.frozen 1
    have hbs := k3.set2 (.int .i64 0) (.slice none 0 0)
    have d0 := hbs.cell 0
    have d1 := hbs.cell 1
    simp at d0 d1
    have hb9 := (hb2.setCell (p := ⟨g, 0, none⟩) hgw (.int .i64 0)).setCell (p := ⟨g, 1, none⟩) hgw (.slice none 0 0)
    go_wp2_with fail
    refine bodyPost_ret (v := .tuple #[.agg #[.int .i64 0, .slice none 0 0], .int .i64 1]) (by simp [results, Tryz.results21, go_sem, d0, d1]) rfl ?_
    exact ⟨rfl, hb9⟩

set_option maxRecDepth 100000 in
set_option maxHeartbeats 2000000 in
theorem mul_bad {s1 s2 : Int} {l1 l2 : List Int} {A1 A2 : Option Addr} {n1 c1 n2 c2 : Nat} {w : World} (h1 : Ar w s1 l1 A1 n1 c1) (h2 : Ar w s2 l2 A2 n2 c2) (hb : ¬ (RightP s1 l1 ∧ RightP s2 l2)) :
    Calls Tryz.prog 11 #[.agg #[.int .i64 s1, .slice A1 n1 c1], .agg #[.int .i64 s2, .slice A2 n2 c2]] w fun e w' => e = .returned (.tuple #[.agg #[.int .i64 0, .slice none 0 0], .int .i64 1]) ∧ Below w.heap.size w w' := by
  have hH := fun (w' : World) (h : Below w.heap.size w w') (b : Bool) => (h1.later h).right b
  have hG := fun (w' : World) (h : Below w.heap.size w w') (b : Bool) => (h2.later h).right b
  have HH := Lib.hid hH; clear hH
  have HG := Lib.hid hG; clear hG
  have HB := Lib.hid hb; clear hb
  by_cases hr : RightP s1 l1
  · have hn : ¬ RightP s2 l2 := fun h => HB.out ⟨hr, h⟩
    have HR := Lib.hid hr; clear hr
    have HN := Lib.hid hn; clear hn
    clear h1 h2
    go_enter Tryz.func11, Tryz.ntmps11
    go_wp2_with fail
    obtain ⟨w1, hw1, hb1, k1, k2, k3, _⟩ := boxes3 w #[.int .i64 s1, .slice A1 n1 c1] #[.int .i64 s2, .slice A2 n2 c2] #[.int .i64 0, .slice none 0 0]
    rw [← hw1]
    clear hw1
    (with_reducible refine (HH.out w1 hb1 true (by simp [HR.out])).mono ?_)
    rintro e w2 ⟨rfl, hb2⟩
    have k2 := k2.below hb2 k2.lt
    have k3 := k3.below hb2 k3.lt
    have hb2 := hb1.trans (hb2.mono hb1.size)
    have j1 : w2.cell? ⟨w.heap.size + 1, 0, none⟩ = some (.int .i64 s2) := k2.cell 0
    have j2 : w2.cell? ⟨w.heap.size + 1, 1, none⟩ = some (.slice A2 n2 c2) := k2.cell 1
    go_wp2_with fail
    clear j1 j2
    (with_reducible refine (HG.out w2 hb2 false (by simp [HN.out])).mono ?_)
    rintro e w3 ⟨rfl, hb3⟩
    have k3 := k3.below hb3 k3.lt
    have hb3 := hb2.trans (hb3.mono hb2.size)
    clear k1 k2 hb1 hb2 HH HG
    obtain ⟨g, hg⟩ : ∃ g, w.heap.size + 1 + 1 = g := ⟨_, rfl⟩
    have hgw : w.heap.size ≤ g := by omega
    rw [hg] at k3 ⊢
    clear hg
    have c30 : w3.cell? ⟨g, 0, none⟩ = some (.int .i64 0) := k3.cell 0
    have c31 : w3.cell? ⟨g, 1, none⟩ = some (.slice none 0 0) := k3.cell 1
    have f30 := k3.frozen 0
    have f31 := k3.frozen 1
    have hbs := k3.set2 (.int .i64 0) (.slice none 0 0)
    have d0 := hbs.cell 0
    have d1 := hbs.cell 1
    simp at d0 d1
    have hb9 := (hb3.setCell (p := ⟨g, 0, none⟩) hgw (.int .i64 0)).setCell (p := ⟨g, 1, none⟩) hgw (.slice none 0 0)
    go_wp2_with fail
    refine bodyPost_ret (v := .tuple #[.agg #[.int .i64 0, .slice none 0 0], .int .i64 1]) (by simp [results, Tryz.results11, go_sem, d0, d1]) rfl ?_
    exact ⟨rfl, hb9⟩
  · have HN := Lib.hid hr; clear hr
    clear h1 h2
    go_enter Tryz.func11, Tryz.ntmps11
    go_wp2_with fail
    obtain ⟨w1, hw1, hb1, k1, k2, k3, _⟩ := boxes3 w #[.int .i64 s1, .slice A1 n1 c1] #[.int .i64 s2, .slice A2 n2 c2] #[.int .i64 0, .slice none 0 0]
    rw [← hw1]
    clear hw1
    (with_reducible refine (HH.out w1 hb1 false (by simp [HN.out])).mono ?_)
    rintro e w2 ⟨rfl, hb2⟩
    have k3 := k3.below hb2 k3.lt
    have hb2 := hb1.trans (hb2.mono hb1.size)
    clear k1 k2 hb1 HH HG
    obtain ⟨g, hg⟩ : ∃ g, w.heap.size + 1 + 1 = g := ⟨_, rfl⟩
    have hgw : w.heap.size ≤ g := by omega
    rw [hg] at k3 ⊢
    clear hg
    have c30 : w2.cell? ⟨g, 0, none⟩ = some (.int .i64 0) := k3.cell 0
    have c31 : w2.cell? ⟨g, 1, none⟩ = some (.slice none 0 0) := k3.cell 1
    have f30 := k3.frozen 0
    have f31 := k3.frozen 1
    have hbs := k3.set2 (.int .i64 0) (.slice none 0 0)
    have d0 := hbs.cell 0
    have d1 := hbs.cell 1
    simp at d0 d1
    have hb9 := (hb2.setCell (p := ⟨g, 0, none⟩) hgw (.int .i64 0)).setCell (p := ⟨g, 1, none⟩) hgw (.slice none 0 0)
    go_wp2_with fail
    refine bodyPost_ret (v := .tuple #[.agg #[.int .i64 0, .slice none 0 0], .int .i64 1]) (by simp [results, Tryz.results11, go_sem, d0, d1]) rfl ?_
    exact ⟨rfl, hb9⟩

set_option maxRecDepth 100000 in
set_option maxHeartbeats 2000000 in
theorem sum_bad {s1 s2 t : Int} {l1 l2 : List Int} {A1 A2 : Option Addr} {n1 c1 n2 c2 : Nat} {w : World} (h1 : Ar w s1 l1 A1 n1 c1) (h2 : Ar w s2 l2 A2 n2 c2) (hb : ¬ (RightP s1 l1 ∧ RightP s2 l2)) :
    Calls Tryz.prog 60 #[.agg #[.int .i64 s1, .slice A1 n1 c1], .agg #[.int .i64 s2, .slice A2 n2 c2], .int .i64 t] w fun e w' => e = .returned (.tuple #[.agg #[.int .i64 0, .slice none 0 0], .int .i64 1]) ∧ Below w.heap.size w w' := by
  have hH := fun (w' : World) (h : Below w.heap.size w w') (b : Bool) => (h1.later h).right b
  have hG := fun (w' : World) (h : Below w.heap.size w w') (b : Bool) => (h2.later h).right b
  have HH := Lib.hid hH; clear hH
  have HG := Lib.hid hG; clear hG
  have HB := Lib.hid hb; clear hb
  by_cases hr : RightP s1 l1
  · have hn : ¬ RightP s2 l2 := fun h => HB.out ⟨hr, h⟩
    have HR := Lib.hid hr; clear hr
    have HN := Lib.hid hn; clear hn
    clear h1 h2
    go_enter Tryz.func60, Tryz.ntmps60
    go_wp2_with fail
    obtain ⟨w1, hw1, hb1, k1, k2, k3, _⟩ := boxes3 w #[.int .i64 s1, .slice A1 n1 c1] #[.int .i64 s2, .slice A2 n2 c2] #[.int .i64 0, .slice none 0 0]
    rw [← hw1]
    clear hw1
    (with_reducible refine (HH.out w1 hb1 true (by simp [HR.out])).mono ?_)
    rintro e w2 ⟨rfl, hb2⟩
    have k2 := k2.below hb2 k2.lt
    have k3 := k3.below hb2 k3.lt
    have hb2 := hb1.trans (hb2.mono hb1.size)
    have j1 : w2.cell? ⟨w.heap.size + 1, 0, none⟩ = some (.int .i64 s2) := k2.cell 0
    have j2 : w2.cell? ⟨w.heap.size + 1, 1, none⟩ = some (.slice A2 n2 c2) := k2.cell 1
    go_wp2_with fail
    clear j1 j2
    (with_reducible refine (HG.out w2 hb2 false (by simp [HN.out])).mono ?_)
    rintro e w3 ⟨rfl, hb3⟩
    have k3 := k3.below hb3 k3.lt
    have hb3 := hb2.trans (hb3.mono hb2.size)
    clear k1 k2 hb1 hb2 HH HG
    obtain ⟨g, hg⟩ : ∃ g, w.heap.size + 1 + 1 = g := ⟨_, rfl⟩
    have hgw : w.heap.size ≤ g := by omega
    rw [hg] at k3 ⊢
    clear hg
    have c30 : w3.cell? ⟨g, 0, none⟩ = some (.int .i64 0) := k3.cell 0
    have c31 : w3.cell? ⟨g, 1, none⟩ = some (.slice none 0 0) := k3.cell 1
    have f30 := k3.frozen 0
    have f31 := k3.frozen 1
    have hbs := k3.set2 (.int .i64 0) (.slice none 0 0)
    have d0 := hbs.cell 0
    have d1 := hbs.cell 1
    simp at d0 d1
    have hb9 := (hb3.setCell (p := ⟨g, 0, none⟩) hgw (.int .i64 0)).setCell (p := ⟨g, 1, none⟩) hgw (.slice none 0 0)
    go_wp2_with fail
    refine bodyPost_ret (v := .tuple #[.agg #[.int .i64 0, .slice none 0 0], .int .i64 1]) (by simp [results, Tryz.results60, go_sem, d0, d1]) rfl ?_
    exact ⟨rfl, hb9⟩
  · have HN := Lib.hid hr; clear hr
    clear h1 h2
    go_enter Tryz.func60, Tryz.ntmps60
    go_wp2_with fail
    obtain ⟨w1, hw1, hb1, k1, k2, k3, _⟩ := boxes3 w #[.int .i64 s1, .slice A1 n1 c1] #[.int .i64 s2, .slice A2 n2 c2] #[.int .i64 0, .slice none 0 0]
    rw [← hw1]
    clear hw1
    (with_reducible refine (HH.out w1 hb1 false (by simp [HN.out])).mono ?_)
    rintro e w2 ⟨rfl, hb2⟩
    have k3 := k3.below hb2 k3.lt
    have hb2 := hb1.trans (hb2.mono hb1.size)
    clear k1 k2 hb1 HH HG
    obtain ⟨g, hg⟩ : ∃ g, w.heap.size + 1 + 1 = g := ⟨_, rfl⟩
    have hgw : w.heap.size ≤ g := by omega
    rw [hg] at k3 ⊢
    clear hg
    have c30 : w2.cell? ⟨g, 0, none⟩ = some (.int .i64 0) := k3.cell 0
    have c31 : w2.cell? ⟨g, 1, none⟩ = some (.slice none 0 0) := k3.cell 1
    have f30 := k3.frozen 0
    have f31 := k3.frozen 1
    have hbs := k3.set2 (.int .i64 0) (.slice none 0 0)
    have d0 := hbs.cell 0
    have d1 := hbs.cell 1
    simp at d0 d1
    have hb9 := (hb2.setCell (p := ⟨g, 0, none⟩) hgw (.int .i64 0)).setCell (p := ⟨g, 1, none⟩) hgw (.slice none 0 0)
    go_wp2_with fail
    refine bodyPost_ret (v := .tuple #[.agg #[.int .i64 0, .slice none 0 0], .int .i64 1]) (by simp [results, Tryz.results60, go_sem, d0, d1]) rfl ?_
    exact ⟨rfl, hb9⟩

set_option maxRecDepth 100000 in
set_option maxHeartbeats 2000000 in
theorem add_bad {s1 s2 : Int} {l1 l2 : List Int} {A1 A2 : Option Addr} {n1 c1 n2 c2 : Nat} {w : World} (h1 : Ar w s1 l1 A1 n1 c1) (h2 : Ar w s2 l2 A2 n2 c2) (hb : ¬ (RightP s1 l1 ∧ RightP s2 l2)) :
    Calls Tryz.prog 7 #[.agg #[.int .i64 s1, .slice A1 n1 c1], .agg #[.int .i64 s2, .slice A2 n2 c2]] w fun e w' => e = .returned (.tuple #[.agg #[.int .i64 0, .slice none 0 0], .int .i64 1]) ∧ Below w.heap.size w w' := by
  have hH := fun (w' : World) (h : Below w.heap.size w w') (t : Int) => sum_bad (t := t) (h1.later h) (h2.later h) hb
  have HH := Lib.hid hH; clear hH
  clear h1 h2 hb
  go_enter Tryz.func7, Tryz.ntmps7
  go_wp2_with fail
  obtain ⟨w1, hw1, hb1, k1, k2, k3, _⟩ := boxes3 w #[.int .i64 s1, .slice A1 n1 c1] #[.int .i64 s2, .slice A2 n2 c2] #[.int .i64 0, .slice none 0 0]
  rw [← hw1]
  clear hw1 k1 k2
  (with_reducible refine (HH.out w1 hb1 _).mono ?_)
  rintro e w3 ⟨rfl, hb2⟩
  have k3 := k3.below hb2 k3.lt
  have hb3 := hb1.trans (hb2.mono hb1.size)
  clear HH
  obtain ⟨g, hg⟩ : ∃ g, w.heap.size + 1 + 1 = g := ⟨_, rfl⟩
  have hgw : w.heap.size ≤ g := by omega
  rw [hg] at k3 ⊢
  clear hg
  have c30 : w3.cell? ⟨g, 0, none⟩ = some (.int .i64 0) := k3.cell 0
  have c31 : w3.cell? ⟨g, 1, none⟩ = some (.slice none 0 0) := k3.cell 1
  have f30 := k3.frozen 0
  have f31 := k3.frozen 1
  have hbs := k3.set2 (.int .i64 0) (.slice none 0 0)
  have d0 := hbs.cell 0
  have d1 := hbs.cell 1
  simp at d0 d1
  have hb9 := (hb3.setCell (p := ⟨g, 0, none⟩) hgw (.int .i64 0)).setCell (p := ⟨g, 1, none⟩) hgw (.slice none 0 0)
  go_wp2_with fail
  refine bodyPost_ret (v := .tuple #[.agg #[.int .i64 0, .slice none 0 0], .int .i64 1]) (by simp [results, Tryz.results7, go_sem, d0, d1]) rfl ?_
  exact ⟨rfl, hb9⟩

set_option maxRecDepth 100000 in
set_option maxHeartbeats 2000000 in
theorem sub_bad {s1 s2 : Int} {l1 l2 : List Int} {A1 A2 : Option Addr} {n1 c1 n2 c2 : Nat} {w : World} (h1 : Ar w s1 l1 A1 n1 c1) (h2 : Ar w s2 l2 A2 n2 c2) (hb : ¬ (RightP s1 l1 ∧ RightP s2 l2)) :
    Calls Tryz.prog 9 #[.agg #[.int .i64 s1, .slice A1 n1 c1], .agg #[.int .i64 s2, .slice A2 n2 c2]] w fun e w' => e = .returned (.tuple #[.agg #[.int .i64 0, .slice none 0 0], .int .i64 1]) ∧ Below w.heap.size w w' := by
  have hH := fun (w' : World) (h : Below w.heap.size w w') (t : Int) => sum_bad (t := t) (h1.later h) (h2.later h) hb
  have HH := Lib.hid hH; clear hH
  clear h1 h2 hb
  go_enter Tryz.func9, Tryz.ntmps9
  go_wp2_with fail
  obtain ⟨w1, hw1, hb1, k1, k2, k3, _⟩ := boxes3 w #[.int .i64 s1, .slice A1 n1 c1] #[.int .i64 s2, .slice A2 n2 c2] #[.int .i64 0, .slice none 0 0]
  rw [← hw1]
  clear hw1 k1 k2
  (with_reducible refine (HH.out w1 hb1 _).mono ?_)
  rintro e w3 ⟨rfl, hb2⟩
  have k3 := k3.below hb2 k3.lt
  have hb3 := hb1.trans (hb2.mono hb1.size)
  clear HH
  obtain ⟨g, hg⟩ : ∃ g, w.heap.size + 1 + 1 = g := ⟨_, rfl⟩
  have hgw : w.heap.size ≤ g := by omega
  rw [hg] at k3 ⊢
  clear hg
  have c30 : w3.cell? ⟨g, 0, none⟩ = some (.int .i64 0) := k3.cell 0
  have c31 : w3.cell? ⟨g, 1, none⟩ = some (.slice none 0 0) := k3.cell 1
  have f30 := k3.frozen 0
  have f31 := k3.frozen 1
  have hbs := k3.set2 (.int .i64 0) (.slice none 0 0)
  have d0 := hbs.cell 0
  have d1 := hbs.cell 1
  simp at d0 d1
  have hb9 := (hb3.setCell (p := ⟨g, 0, none⟩) hgw (.int .i64 0)).setCell (p := ⟨g, 1, none⟩) hgw (.slice none 0 0)
  go_wp2_with fail
  refine bodyPost_ret (v := .tuple #[.agg #[.int .i64 0, .slice none 0 0], .int .i64 1]) (by simp [results, Tryz.results9, go_sem, d0, d1]) rfl ?_
  exact ⟨rfl, hb9⟩

end Go.Proofs.YtkjpfnbdlbnbkaaGreatDoor

namespace Go.Proofs.YtkjpfnbdlbnbkaaGreatDoor
open Go.RowKit

set_option maxRecDepth 100000 in
set_option maxHeartbeats 4000000 in
theorem rdiv_zero (x : Int) (vx vy : Value) (w : World) (hx : BV w w.heap.size vx x) (hy : BV w w.heap.size vy 0) (hx6 : ab x < pw 60) :
    Calls Tryz.prog 15 #[vx, vy] w fun e w' => e = .returned (.tuple #[.agg #[.int .i64 0, .slice none 0 0], .agg #[.int .i64 0, .slice none 0 0], .int .i64 15]) ∧ Below w.heap.size w w' := by
  obtain ⟨A1, c1, rfl, hc1, hm1, hI1⟩ := hx
  obtain ⟨A2, c2, rfl, hc2, hm2, hI2⟩ := hy
  have hl1 := len60 hx6
  have h0 : ab (0 : Int) < pw 60 := by rw [ab_zero]; exact pw_pos 60
  have hl2 := len60 h0
  have hr1 := fun (w' : World) (hb : Below w.heap.size w w') => rRight_any (sgn x) (D (ab x)) A1 _ c1 w' ⟨rfl, (hI1.below hb).more hb.size, hc1, hm1⟩ true (by simp [rightP_of hx6])
  have hr2 := fun (w' : World) (hb : Below w.heap.size w w') => rRight_any (sgn 0) (D (ab 0)) A2 _ c2 w' ⟨rfl, (hI2.below hb).more hb.size, hc2, hm2⟩ true (by simp [rightP_of h0])
  rw [sgn_zero] at hr2 ⊢
  obtain ⟨n1, hn1⟩ : ∃ n, (D (ab x)).length = n := ⟨_, rfl⟩
  obtain ⟨n2, hn2⟩ : ∃ n, (D (ab (0 : Int))).length = n := ⟨_, rfl⟩
  obtain ⟨s1, hs1e⟩ : ∃ s, sgn x = s := ⟨_, rfl⟩
  rw [hs1e, hn1] at hr1 ⊢
  rw [hn2] at hr2 ⊢
  have HR1 := Lib.hid hr1; clear hr1
  have HR2 := Lib.hid hr2; clear hr2
  clear hn1 hn2 hs1e hI1 hI2 hx6 hc1 hc2 hl1 hl2 h0 hm1 hm2
  go_enter Tryz.func15, Tryz.ntmps15
  go_wp2_with fail
  obtain ⟨w1, hw1, hb1, k1, k2, k3, k4, hsz⟩ := boxes4 w #[.int .i64 s1, .slice A1 n1 c1] #[.int .i64 0, .slice A2 n2 c2] #[.int .i64 0, .slice none 0 0] #[.int .i64 0, .slice none 0 0]
  rw [← hw1]
  clear hw1
  (with_reducible refine (HR1.out w1 hb1).mono ?_)
  rintro e w2 ⟨rfl, hb2⟩
  have k2 := k2.below hb2 k2.lt
  have k3 := k3.below hb2 k3.lt
  have k4 := k4.below hb2 k4.lt
  have hb2 := hb1.trans (hb2.mono hb1.size)
  have j1 : w2.cell? ⟨w.heap.size + 1, 0, none⟩ = some (.int .i64 0) := k2.cell 0
  have j2 : w2.cell? ⟨w.heap.size + 1, 1, none⟩ = some (.slice A2 n2 c2) := k2.cell 1
  go_wp2_with fail
  (with_reducible refine (HR2.out w2 hb2).mono ?_)
  rintro e w3 ⟨rfl, hb3⟩
  clear j1 j2
  have k2 := k2.below hb3 k2.lt
  have k3 := k3.below hb3 k3.lt
  have k4 := k4.below hb3 k4.lt
  have hb3 := hb2.trans (hb3.mono hb2.size)
  clear hb1 hb2 HR1 HR2 hsz
  have j0 : w3.cell? ⟨w.heap.size + 1, 0, none⟩ = some (.int .i64 0) := k2.cell 0
  obtain ⟨g, hg⟩ : ∃ g, w.heap.size + 1 + 1 = g := ⟨_, rfl⟩
  have hgw : w.heap.size ≤ g := by omega
  rw [hg] at k3 k4 ⊢
  clear hg
  have c30 : w3.cell? ⟨g, 0, none⟩ = some (.int .i64 0) := k3.cell 0
  have c31 : w3.cell? ⟨g, 1, none⟩ = some (.slice none 0 0) := k3.cell 1
  have c40 : w3.cell? ⟨g + 1, 0, none⟩ = some (.int .i64 0) := k4.cell 0
  have c41 : w3.cell? ⟨g + 1, 1, none⟩ = some (.slice none 0 0) := k4.cell 1
  have f30 := k3.frozen 0
  have f31 := k3.frozen 1
  have f40 := k4.frozen 0
  have f41 := k4.frozen 1
  have hbs := k3.set2 (.int .i64 0) (.slice none 0 0)
  have hbs' := (hbs.far (p := ⟨g + 1, 0, none⟩) (by simp) (.int .i64 0)).far (p := ⟨g + 1, 1, none⟩) (by simp) (.slice none 0 0)
  have hbt := ((k4.far (p := ⟨g, 0, none⟩) (by simp) (.int .i64 0)).far (p := ⟨g, 1, none⟩) (by simp) (.slice none 0 0)).set2 (.int .i64 0) (.slice none 0 0)
  have d0 := hbs'.cell 0
  have d1 := hbs'.cell 1
  have d2 := hbt.cell 0
  have d3 := hbt.cell 1
  simp at d0 d1 d2 d3
  have hb4 := (((hb3.setCell (p := ⟨g, 0, none⟩) hgw (.int .i64 0)).setCell (p := ⟨g, 1, none⟩) hgw (.slice none 0 0)).setCell (p := ⟨g + 1, 0, none⟩) (by show w.heap.size ≤ g + 1; omega) (.int .i64 0)).setCell (p := ⟨g + 1, 1, none⟩) (by show w.heap.size ≤ g + 1; omega) (.slice none 0 0)
  go_wp2_with fail
  refine bodyPost_ret (v := .tuple #[.agg #[.int .i64 0, .slice none 0 0], .agg #[.int .i64 0, .slice none 0 0], .int .i64 15]) (by simp [results, Tryz.results15, go_sem, d0, d1, d2, d3]) rfl ?_
  exact ⟨rfl, hb4⟩

set_option maxRecDepth 100000 in
set_option maxHeartbeats 2000000 in
theorem div_bad {s1 s2 : Int} {l1 l2 : List Int} {A1 A2 : Option Addr} {n1 c1 n2 c2 : Nat} {w : World} (h1 : Ar w s1 l1 A1 n1 c1) (h2 : Ar w s2 l2 A2 n2 c2) (hb : ¬ (RightP s1 l1 ∧ RightP s2 l2)) :
    Calls Tryz.prog 14 #[.agg #[.int .i64 s1, .slice A1 n1 c1], .agg #[.int .i64 s2, .slice A2 n2 c2]] w fun e w' => e = .returned (.tuple #[.agg #[.int .i64 0, .slice none 0 0], .agg #[.int .i64 0, .slice none 0 0], .int .i64 1]) ∧ Below w.heap.size w w' := by
  have hH := fun (w' : World) (h : Below w.heap.size w w') (b : Bool) => (h1.later h).right b
  have hG := fun (w' : World) (h : Below w.heap.size w w') (b : Bool) => (h2.later h).right b
  have HH := Lib.hid hH; clear hH
  have HG := Lib.hid hG; clear hG
  have HB := Lib.hid hb; clear hb
  by_cases hr : RightP s1 l1
  · have hn : ¬ RightP s2 l2 := fun h => HB.out ⟨hr, h⟩
    have HR := Lib.hid hr; clear hr
    have HN := Lib.hid hn; clear hn
    clear h1 h2
    go_enter Tryz.func14, Tryz.ntmps14
    go_wp2_with fail
    obtain ⟨w1, hw1, hb1, k1, k2, k3, k4, _⟩ := boxes4 w #[.int .i64 s1, .slice A1 n1 c1] #[.int .i64 s2, .slice A2 n2 c2] #[.int .i64 0, .slice none 0 0] #[.int .i64 0, .slice none 0 0]
    rw [← hw1]
    clear hw1
    (with_reducible refine (HH.out w1 hb1 true (by simp [HR.out])).mono ?_)
    rintro e w2 ⟨rfl, hb2⟩
    have k2 := k2.below hb2 k2.lt
    have k3 := k3.below hb2 k3.lt
    have k4 := k4.below hb2 k4.lt
    have hb2 := hb1.trans (hb2.mono hb1.size)
    have j1 : w2.cell? ⟨w.heap.size + 1, 0, none⟩ = some (.int .i64 s2) := k2.cell 0
    have j2 : w2.cell? ⟨w.heap.size + 1, 1, none⟩ = some (.slice A2 n2 c2) := k2.cell 1
    go_wp2_with fail
    clear j1 j2
    (with_reducible refine (HG.out w2 hb2 false (by simp [HN.out])).mono ?_)
    rintro e w3 ⟨rfl, hb3⟩
    have k3 := k3.below hb3 k3.lt
    have k4 := k4.below hb3 k4.lt
    have hb3 := hb2.trans (hb3.mono hb2.size)
    clear k1 k2 hb1 hb2 HH HG
    obtain ⟨g, hg⟩ : ∃ g, w.heap.size + 1 + 1 = g := ⟨_, rfl⟩
    have hgw : w.heap.size ≤ g := by omega
    rw [hg] at k3 k4 ⊢
    clear hg
    have c30 : w3.cell? ⟨g, 0, none⟩ = some (.int .i64 0) := k3.cell 0
    have c31 : w3.cell? ⟨g, 1, none⟩ = some (.slice none 0 0) := k3.cell 1
    have c40 : w3.cell? ⟨g + 1, 0, none⟩ = some (.int .i64 0) := k4.cell 0
    have c41 : w3.cell? ⟨g + 1, 1, none⟩ = some (.slice none 0 0) := k4.cell 1
    have f30 := k3.frozen 0
    have f31 := k3.frozen 1
    have f40 := k4.frozen 0
    have f41 := k4.frozen 1
    have hbs := k3.set2 (.int .i64 0) (.slice none 0 0)
    have hbs' := (hbs.far (p := ⟨g + 1, 0, none⟩) (by simp) (.int .i64 0)).far (p := ⟨g + 1, 1, none⟩) (by simp) (.slice none 0 0)
    have hbt := ((k4.far (p := ⟨g, 0, none⟩) (by simp) (.int .i64 0)).far (p := ⟨g, 1, none⟩) (by simp) (.slice none 0 0)).set2 (.int .i64 0) (.slice none 0 0)
    have d0 := hbs'.cell 0
    have d1 := hbs'.cell 1
    have d2 := hbt.cell 0
    have d3 := hbt.cell 1
    simp at d0 d1 d2 d3
    have hb4 := (((hb3.setCell (p := ⟨g, 0, none⟩) hgw (.int .i64 0)).setCell (p := ⟨g, 1, none⟩) hgw (.slice none 0 0)).setCell (p := ⟨g + 1, 0, none⟩) (by show w.heap.size ≤ g + 1; omega) (.int .i64 0)).setCell (p := ⟨g + 1, 1, none⟩) (by show w.heap.size ≤ g + 1; omega) (.slice none 0 0)
    go_wp2_with fail
    refine bodyPost_ret (v := .tuple #[.agg #[.int .i64 0, .slice none 0 0], .agg #[.int .i64 0, .slice none 0 0], .int .i64 1]) (by simp [results, Tryz.results14, go_sem, d0, d1, d2, d3]) rfl ?_
    exact ⟨rfl, hb4⟩
  · have HN := Lib.hid hr; clear hr
    clear h1 h2
    go_enter Tryz.func14, Tryz.ntmps14
    go_wp2_with fail
    obtain ⟨w1, hw1, hb1, k1, k2, k3, k4, _⟩ := boxes4 w #[.int .i64 s1, .slice A1 n1 c1] #[.int .i64 s2, .slice A2 n2 c2] #[.int .i64 0, .slice none 0 0] #[.int .i64 0, .slice none 0 0]
    rw [← hw1]
    clear hw1
    (with_reducible refine (HH.out w1 hb1 false (by simp [HN.out])).mono ?_)
    rintro e w2 ⟨rfl, hb2⟩
    have k3 := k3.below hb2 k3.lt
    have k4 := k4.below hb2 k4.lt
    have hb2 := hb1.trans (hb2.mono hb1.size)
    clear k1 k2 hb1 HH HG
    obtain ⟨g, hg⟩ : ∃ g, w.heap.size + 1 + 1 = g := ⟨_, rfl⟩
    have hgw : w.heap.size ≤ g := by omega
    rw [hg] at k3 k4 ⊢
    clear hg
    have c30 : w2.cell? ⟨g, 0, none⟩ = some (.int .i64 0) := k3.cell 0
    have c31 : w2.cell? ⟨g, 1, none⟩ = some (.slice none 0 0) := k3.cell 1
    have c40 : w2.cell? ⟨g + 1, 0, none⟩ = some (.int .i64 0) := k4.cell 0
    have c41 : w2.cell? ⟨g + 1, 1, none⟩ = some (.slice none 0 0) := k4.cell 1
    have f30 := k3.frozen 0
    have f31 := k3.frozen 1
    have f40 := k4.frozen 0
    have f41 := k4.frozen 1
    have hbs := k3.set2 (.int .i64 0) (.slice none 0 0)
    have hbs' := (hbs.far (p := ⟨g + 1, 0, none⟩) (by simp) (.int .i64 0)).far (p := ⟨g + 1, 1, none⟩) (by simp) (.slice none 0 0)
    have hbt := ((k4.far (p := ⟨g, 0, none⟩) (by simp) (.int .i64 0)).far (p := ⟨g, 1, none⟩) (by simp) (.slice none 0 0)).set2 (.int .i64 0) (.slice none 0 0)
    have d0 := hbs'.cell 0
    have d1 := hbs'.cell 1
    have d2 := hbt.cell 0
    have d3 := hbt.cell 1
    simp at d0 d1 d2 d3
    have hb4 := (((hb2.setCell (p := ⟨g, 0, none⟩) hgw (.int .i64 0)).setCell (p := ⟨g, 1, none⟩) hgw (.slice none 0 0)).setCell (p := ⟨g + 1, 0, none⟩) (by show w.heap.size ≤ g + 1; omega) (.int .i64 0)).setCell (p := ⟨g + 1, 1, none⟩) (by show w.heap.size ≤ g + 1; omega) (.slice none 0 0)
    go_wp2_with fail
    refine bodyPost_ret (v := .tuple #[.agg #[.int .i64 0, .slice none 0 0], .agg #[.int .i64 0, .slice none 0 0], .int .i64 1]) (by simp [results, Tryz.results14, go_sem, d0, d1, d2, d3]) rfl ?_
    exact ⟨rfl, hb4⟩

set_option maxRecDepth 100000 in
set_option maxHeartbeats 2000000 in
theorem rdiv_bad {s1 s2 : Int} {l1 l2 : List Int} {A1 A2 : Option Addr} {n1 c1 n2 c2 : Nat} {w : World} (h1 : Ar w s1 l1 A1 n1 c1) (h2 : Ar w s2 l2 A2 n2 c2) (hb : ¬ (RightP s1 l1 ∧ RightP s2 l2)) :
    Calls Tryz.prog 15 #[.agg #[.int .i64 s1, .slice A1 n1 c1], .agg #[.int .i64 s2, .slice A2 n2 c2]] w fun e w' => e = .returned (.tuple #[.agg #[.int .i64 0, .slice none 0 0], .agg #[.int .i64 0, .slice none 0 0], .int .i64 1]) ∧ Below w.heap.size w w' := by
  have hH := fun (w' : World) (h : Below w.heap.size w w') (b : Bool) => rRight_any s1 l1 A1 n1 c1 w' (h1.later h) b
  have hG := fun (w' : World) (h : Below w.heap.size w w') (b : Bool) => rRight_any s2 l2 A2 n2 c2 w' (h2.later h) b
  have HH := Lib.hid hH; clear hH
  have HG := Lib.hid hG; clear hG
  have HB := Lib.hid hb; clear hb
  by_cases hr : RightP s1 l1
  · have hn : ¬ RightP s2 l2 := fun h => HB.out ⟨hr, h⟩
    have HR := Lib.hid hr; clear hr
    have HN := Lib.hid hn; clear hn
    clear h1 h2
    go_enter Tryz.func15, Tryz.ntmps15
    go_wp2_with fail
    obtain ⟨w1, hw1, hb1, k1, k2, k3, k4, _⟩ := boxes4 w #[.int .i64 s1, .slice A1 n1 c1] #[.int .i64 s2, .slice A2 n2 c2] #[.int .i64 0, .slice none 0 0] #[.int .i64 0, .slice none 0 0]
    rw [← hw1]
    clear hw1
    (with_reducible refine (HH.out w1 hb1 true (by simp [HR.out])).mono ?_)
    rintro e w2 ⟨rfl, hb2⟩
    have k2 := k2.below hb2 k2.lt
    have k3 := k3.below hb2 k3.lt
    have k4 := k4.below hb2 k4.lt
    have hb2 := hb1.trans (hb2.mono hb1.size)
    have j1 : w2.cell? ⟨w.heap.size + 1, 0, none⟩ = some (.int .i64 s2) := k2.cell 0
    have j2 : w2.cell? ⟨w.heap.size + 1, 1, none⟩ = some (.slice A2 n2 c2) := k2.cell 1
    go_wp2_with fail
    clear j1 j2
    (with_reducible refine (HG.out w2 hb2 false (by simp [HN.out])).mono ?_)
    rintro e w3 ⟨rfl, hb3⟩
    have k3 := k3.below hb3 k3.lt
    have k4 := k4.below hb3 k4.lt
    have hb3 := hb2.trans (hb3.mono hb2.size)
    clear k1 k2 hb1 hb2 HH HG
    obtain ⟨g, hg⟩ : ∃ g, w.heap.size + 1 + 1 = g := ⟨_, rfl⟩
    have hgw : w.heap.size ≤ g := by omega
    rw [hg] at k3 k4 ⊢
    clear hg
    have c30 : w3.cell? ⟨g, 0, none⟩ = some (.int .i64 0) := k3.cell 0
    have c31 : w3.cell? ⟨g, 1, none⟩ = some (.slice none 0 0) := k3.cell 1
    have c40 : w3.cell? ⟨g + 1, 0, none⟩ = some (.int .i64 0) := k4.cell 0
    have c41 : w3.cell? ⟨g + 1, 1, none⟩ = some (.slice none 0 0) := k4.cell 1
    have f30 := k3.frozen 0
    have f31 := k3.frozen 1
    have f40 := k4.frozen 0
    have f41 := k4.frozen 1
    have hbs := k3.set2 (.int .i64 0) (.slice none 0 0)
    have hbs' := (hbs.far (p := ⟨g + 1, 0, none⟩) (by simp) (.int .i64 0)).far (p := ⟨g + 1, 1, none⟩) (by simp) (.slice none 0 0)
    have hbt := ((k4.far (p := ⟨g, 0, none⟩) (by simp) (.int .i64 0)).far (p := ⟨g, 1, none⟩) (by simp) (.slice none 0 0)).set2 (.int .i64 0) (.slice none 0 0)
    have d0 := hbs'.cell 0
    have d1 := hbs'.cell 1
    have d2 := hbt.cell 0
    have d3 := hbt.cell 1
    simp at d0 d1 d2 d3
    have hb4 := (((hb3.setCell (p := ⟨g, 0, none⟩) hgw (.int .i64 0)).setCell (p := ⟨g, 1, none⟩) hgw (.slice none 0 0)).setCell (p := ⟨g + 1, 0, none⟩) (by show w.heap.size ≤ g + 1; omega) (.int .i64 0)).setCell (p := ⟨g + 1, 1, none⟩) (by show w.heap.size ≤ g + 1; omega) (.slice none 0 0)
    go_wp2_with fail
    refine bodyPost_ret (v := .tuple #[.agg #[.int .i64 0, .slice none 0 0], .agg #[.int .i64 0, .slice none 0 0], .int .i64 1]) (by simp [results, Tryz.results15, go_sem, d0, d1, d2, d3]) rfl ?_
    exact ⟨rfl, hb4⟩
  · have HN := Lib.hid hr; clear hr
    clear h1 h2
    go_enter Tryz.func15, Tryz.ntmps15
    go_wp2_with fail
    obtain ⟨w1, hw1, hb1, k1, k2, k3, k4, _⟩ := boxes4 w #[.int .i64 s1, .slice A1 n1 c1] #[.int .i64 s2, .slice A2 n2 c2] #[.int .i64 0, .slice none 0 0] #[.int .i64 0, .slice none 0 0]
    rw [← hw1]
    clear hw1
    (with_reducible refine (HH.out w1 hb1 false (by simp [HN.out])).mono ?_)
    rintro e w2 ⟨rfl, hb2⟩
    have k3 := k3.below hb2 k3.lt
    have k4 := k4.below hb2 k4.lt
    have hb2 := hb1.trans (hb2.mono hb1.size)
    clear k1 k2 hb1 HH HG
    obtain ⟨g, hg⟩ : ∃ g, w.heap.size + 1 + 1 = g := ⟨_, rfl⟩
    have hgw : w.heap.size ≤ g := by omega
    rw [hg] at k3 k4 ⊢
    clear hg
    have c30 : w2.cell? ⟨g, 0, none⟩ = some (.int .i64 0) := k3.cell 0
    have c31 : w2.cell? ⟨g, 1, none⟩ = some (.slice none 0 0) := k3.cell 1
    have c40 : w2.cell? ⟨g + 1, 0, none⟩ = some (.int .i64 0) := k4.cell 0
    have c41 : w2.cell? ⟨g + 1, 1, none⟩ = some (.slice none 0 0) := k4.cell 1
    have f30 := k3.frozen 0
    have f31 := k3.frozen 1
    have f40 := k4.frozen 0
    have f41 := k4.frozen 1
    have hbs := k3.set2 (.int .i64 0) (.slice none 0 0)
    have hbs' := (hbs.far (p := ⟨g + 1, 0, none⟩) (by simp) (.int .i64 0)).far (p := ⟨g + 1, 1, none⟩) (by simp) (.slice none 0 0)
    have hbt := ((k4.far (p := ⟨g, 0, none⟩) (by simp) (.int .i64 0)).far (p := ⟨g, 1, none⟩) (by simp) (.slice none 0 0)).set2 (.int .i64 0) (.slice none 0 0)
    have d0 := hbs'.cell 0
    have d1 := hbs'.cell 1
    have d2 := hbt.cell 0
    have d3 := hbt.cell 1
    simp at d0 d1 d2 d3
    have hb4 := (((hb2.setCell (p := ⟨g, 0, none⟩) hgw (.int .i64 0)).setCell (p := ⟨g, 1, none⟩) hgw (.slice none 0 0)).setCell (p := ⟨g + 1, 0, none⟩) (by show w.heap.size ≤ g + 1; omega) (.int .i64 0)).setCell (p := ⟨g + 1, 1, none⟩) (by show w.heap.size ≤ g + 1; omega) (.slice none 0 0)
    go_wp2_with fail
    refine bodyPost_ret (v := .tuple #[.agg #[.int .i64 0, .slice none 0 0], .agg #[.int .i64 0, .slice none 0 0], .int .i64 1]) (by simp [results, Tryz.results15, go_sem, d0, d1, d2, d3]) rfl ?_
    exact ⟨rfl, hb4⟩

end Go.Proofs.YtkjpfnbdlbnbkaaGreatDoor
