/- Walks: the reference's Sub where an argument is not right. Printed by a program (rsubbad.py) from Tm. The module and the reference, told together: whatever the arguments, both hand back the same. Walks: the reference's Right of fractions. -/
import Derived.Test.YtgpmmpajnfbecaaGreatXbc
import Derived.Test.YtgpmmpajnfbecaaGreatXbb
import Derived.Test.YtgpmmpajnfbecaaGreatXal
import Derived.Test.YtgpmmpajnfbecaaGreatXat
import Derived.Deep.RegionHeld3
import Derived.Deep.QuietTactic

namespace Go.Proofs.YtgpmmpajnfbecaaGreat
open Go.RowKit

structure Ab (W : World) (g : Nat) (s : Int) (l : List Int) (A : Option Addr) (n c : Nat) : Prop where
  blk : Blk W g 39 #[.int .i64 s, .slice A n c]
  ar : Ar W s l A n c
section
variable {W W' : World} {g : Nat} {s : Int} {l : List Int} {A : Option Addr} {n c : Nat}
theorem Ab.below (h : Ab W g s l A n c) (hb : Below W.heap.size W W') : Ab W' g s l A n c := ⟨h.blk.below hb h.blk.lt, h.ar.later hb⟩
theorem Ab.c0 (h : Ab W g s l A n c) : W.cell? ⟨g, 0, none⟩ = some (.int .i64 s) := h.blk.cell 0
theorem Ab.c1 (h : Ab W g s l A n c) : W.cell? ⟨g, 1, none⟩ = some (.slice A n c) := h.blk.cell 1
end

end Go.Proofs.YtgpmmpajnfbecaaGreat

namespace Go.Proofs.YtgpmmpajnfbecaaGreat
open Go.RowKit

/-- From w on both functions do the same with these arguments. -/
@[reducible] def Both (p q : Nat) (args : Array Value) (w : World) (P : World → Ending → World → Prop) : Prop := ∀ w1, Below w.heap.size w w1 → Calls Tryz.prog p args w1 (P w1) ∧ Calls Tryz.prog q args w1 (P w1)

section
variable {s1 s2 : Int} {l1 l2 : List Int} {A1 A2 : Option Addr} {n1 c1 n2 c2 : Nat} {w : World}
theorem Ar.zz (h : Ar w s1 l1 A1 n1 c1) (hr : RightP s1 l1) : ∃ z, ab z < pw 60 ∧ ∀ w1, Below w.heap.size w w1 → BV w1 w1.heap.size (.agg #[.int .i64 s1, .slice A1 n1 c1]) z := by
  obtain ⟨z, hz, _, h6, _⟩ := h.z hr
  exact ⟨z, h6, fun w1 hb => (hz.below hb).more hb.size⟩

end

end Go.Proofs.YtgpmmpajnfbecaaGreat

namespace Go.Proofs.YtgpmmpajnfbecaaGreat
open Go.RowKit

set_option maxRecDepth 100000 in
set_option maxHeartbeats 4000000 in
theorem rfright_any {s1 s2 : Int} {l1 l2 : List Int} {A1 A2 : Option Addr} {n1 d1 n2 d2 : Nat} (w : World) (h1 : Ar w s1 l1 A1 n1 d1) (h2 : Ar w s2 l2 A2 n2 d2) (b : Bool) (hb : b = true ↔ RF s1 l1 s2 l2) :
    Calls Tryz.prog 31 #[.agg #[.int .i64 s1, .slice A1 n1 d1, .int .i64 s2, .slice A2 n2 d2]] w fun e w' => e = .returned (.bool b) ∧ Below w.heap.size w w' := by
  have hB1 : Below w.heap.size w (w.alloc (.cells #[.int .i64 s1, .slice A1 n1 d1, .int .i64 s2, .slice A2 n2 d2] 41)) := (Below.refl _ _).alloc (Nat.le_refl _) _
  have hbk : Blk (w.alloc (.cells #[.int .i64 s1, .slice A1 n1 d1, .int .i64 s2, .slice A2 n2 d2] 41)) w.heap.size 41 #[.int .i64 s1, .slice A1 n1 d1, .int .i64 s2, .slice A2 n2 d2] := Blk.new _ _ _
  have H1 := Lib.hid h1; clear h1
  have H2 := Lib.hid h2; clear h2
  have HB := Lib.hid hb; clear hb
  go_enter Tryz.func31, Tryz.ntmps31
  go_wp2_with fail
  obtain ⟨W, hW⟩ : ∃ W, W = w.alloc (.cells #[.int .i64 s1, .slice A1 n1 d1, .int .i64 s2, .slice A2 n2 d2] 41) := ⟨_, rfl⟩
  rw [← hW] at hB1 hbk ⊢
  clear hW
  have hT := hB1; clear hB1
  have f0 : W.cell? ⟨w.heap.size, 0, none⟩ = some (.int .i64 s1) := hbk.cell 0
  have f1 : W.cell? ⟨w.heap.size, 1, none⟩ = some (.slice A1 n1 d1) := hbk.cell 1
  go_wp2_with fail
  clear f0 f1
  by_cases hr1 : RightP s1 l1
  rotate_left
  · have hbf : b = false := by
      rcases b with _ | _
      · rfl
      · exact absurd (HB.out.1 rfl).right.1 hr1
    subst hbf
    refine (rRight_any s1 l1 A1 n1 d1 _ (H1.out.later hT) false (by simp [hr1])).mono ?_
    rintro e u ⟨rfl, hb9⟩
    go_wp2_with fail
    go_ret
    exact ⟨rfl, hT.trans (hb9.mono hT.size)⟩
  refine (rRight_any s1 l1 A1 n1 d1 _ (H1.out.later hT) true (by simp [hr1])).mono ?_
  rintro e u1 ⟨rfl, hb9⟩
  replace hT := hT.trans (hb9.mono hT.size)
  replace hbk := hbk.below hb9 hbk.lt
  clear hb9
  have f2 : u1.cell? ⟨w.heap.size, 2, none⟩ = some (.int .i64 s2) := hbk.cell 2
  have f3 : u1.cell? ⟨w.heap.size, 3, none⟩ = some (.slice A2 n2 d2) := hbk.cell 3
  go_wp2_with fail
  clear f2 f3
  by_cases hr2 : RightP s2 l2
  rotate_left
  · have hbf : b = false := by
      rcases b with _ | _
      · rfl
      · exact absurd (HB.out.1 rfl).right.2 hr2
    subst hbf
    refine (rRight_any s2 l2 A2 n2 d2 _ (H2.out.later hT) false (by simp [hr2])).mono ?_
    rintro e u ⟨rfl, hb9⟩
    go_wp2_with fail
    go_ret
    exact ⟨rfl, hT.trans (hb9.mono hT.size)⟩
  refine (rRight_any s2 l2 A2 n2 d2 _ (H2.out.later hT) true (by simp [hr2])).mono ?_
  rintro e u2 ⟨rfl, hb9⟩
  replace hT := hT.trans (hb9.mono hT.size)
  replace hbk := hbk.below hb9 hbk.lt
  clear hb9
  obtain ⟨p, hs1, hl1, hp⟩ := hr1
  obtain ⟨q, hs2, hl2, hq⟩ := hr2
  have hx := (H1.out.later hT).bv hs1 hl1
  have hy := (H2.out.later hT).bv hs2 hl2
  have hb := HB.out
  rw [hs1, hl1, hs2, hl2, RF.iff hp hq] at hb
  clear H1 H2 HB
  have f2 : u2.cell? ⟨w.heap.size, 2, none⟩ = some (.int .i64 s2) := hbk.cell 2
  by_cases h0 : 0 < q
  rotate_left
  · have hbf : b = false := by
      rcases b with _ | _
      · rfl
      · exact absurd (FR.pos (hb.1 rfl)) h0
    subst hbf
    have hlt : decide (s2 < 1) = true := by
      rw [hs2]; rcases sgn_three q with ⟨_, h⟩ | ⟨_, h⟩ | ⟨_, h⟩ <;> rw [h] <;> first | rfl | omega
    clear hb hs1 hs2 hl1 hl2
    go_wp2_with fail
    go_ret
    exact ⟨rfl, hT⟩
  have hs21 : s2 = 1 := by rw [hs2, sgn_pos h0]
  subst hs21
  obtain ⟨d, hd⟩ : ∃ d, ((Int.gcd p q : Nat) : Int) = d := ⟨_, rfl⟩
  obtain ⟨N, hN⟩ : ∃ N, Lib.compareInt d 1 = N := ⟨_, rfl⟩
  have hbn : (N == 0) = b := by
    rw [← hN, cmp_zero, ← hd]
    rw [Bool.eq_iff_iff, hb]
    simp only [decide_eq_true_eq]
    exact ⟨fun h => ⟨h0, by first | exact h | omega⟩, fun h => FR.one h⟩
  have f0 : u2.cell? ⟨w.heap.size, 0, none⟩ = some (.int .i64 s1) := hbk.cell 0
  have f1 : u2.cell? ⟨w.heap.size, 1, none⟩ = some (.slice A1 n1 d1) := hbk.cell 1
  have f3 : u2.cell? ⟨w.heap.size, 3, none⟩ = some (.slice A2 n2 d2) := hbk.cell 3
  have hdl : ab d < pw 60 := by rw [← hd]; exact gcd_lt hp hq
  have HDL := Lib.hid hdl; clear hdl
  have HN := Lib.hid hN; clear hN
  have HD := Lib.hid hd; clear hd
  have HP := Lib.hid hp; clear hp
  have HQ := Lib.hid hq; clear hq
  clear hb hs1 hs2 hl1 hl2 h0
  go_wp2_with fail
  clear f0 f1 f2 f3
  (with_reducible refine (rgcd_any _ hx hy HP.out HQ.out).mono ?_)
  rintro e u3 ⟨rg, rfl, hrg, hb9⟩
  replace hT := hT.trans (hb9.mono hT.size)
  rw [HD.out] at hrg
  clear hx hy hbk hb9
  obtain ⟨sg, Ag, ng, cg, rfl⟩ := hrg.form
  go_upto_region 4 with fail
  obtain ⟨Wg, hW, hbx, kg⟩ := box1 hrg
  rw [← hW]
  clear hW
  replace hT := hT.trans (hbx.mono hT.size)
  have e0 : ∀ W' : World, Below Wg.heap.size Wg W' → W'.cell? ⟨u3.heap.size, 0, none⟩ = some (.int .i64 sg) ∧ W'.cell? ⟨u3.heap.size, 1, none⟩ = some (.slice Ag ng cg) ∧ Below Wg.heap.size Wg W' := fun W' hW =>
    ⟨(kg.below hW).c0, (kg.below hW).c1, hW⟩
  have E0 := Lib.hid e0; clear e0
  have h60 : ab 1 < pw 60 := by decide
  have hss := fun (w' : World) (hb : Below Wg.heap.size Wg w') (s : Int) (A : Option Addr) (n c : Nat) (h : BV w' w'.heap.size (.agg #[.int .i64 s, .slice A n c]) 1) => rcmp_any w' (kg.below hb).bv h HDL.out h60
  rw [HN.out] at hss
  have HSS := Lib.hid hss; clear hss
  have hB00 : Below Wg.heap.size Wg Wg.drew := (Below.refl _ _).drew
  have hTs := hT.size
  clear kg
  go_region_held3 (fun W' => W'.cell? ⟨u3.heap.size, 0, none⟩ = some (.int .i64 sg) ∧ W'.cell? ⟨u3.heap.size, 1, none⟩ = some (.slice Ag ng cg) ∧ Below Wg.heap.size Wg W')
    (first | exact E0.out _ (by assumption) | exact E0.out _ ⟨rfl, rfl, rfl, Nat.le_refl _, fun _ _ => rfl⟩)
    (first
      | (go_at_call 59; have _h := hB4; refine (HSS.out _ hB4 _ _ _ _ hq1.bv).mono ?_; rintro e x5 ⟨rfl, hb5⟩; have hB5 : Below Wg.heap.size Wg x5 := hB4.trans (hb5.mono hB4.size))
      | (go_at_call 37; refine (rof_any 1 _ (by omega) (by omega)).mono ?_; rintro e x4 ⟨r1, rfl, hq1, hb4⟩; obtain ⟨s9, A9, n9, c9, rfl⟩ := hq1.form; have hB4 : Below Wg.heap.size Wg x4 := ⟨hb4.os, hb4.tape, hb4.output, hb4.size, hb4.block⟩))
  go_wp2_with fail
  go_ret
  exact ⟨rfl, hT.trans (hB5.mono hTs)⟩

end Go.Proofs.YtgpmmpajnfbecaaGreat
