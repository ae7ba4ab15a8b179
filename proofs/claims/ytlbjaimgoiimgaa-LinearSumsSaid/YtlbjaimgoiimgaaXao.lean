/- Walks: Compare, Neg, Int of big and of the reference, and the reference's Text, where an argument is not right. Printed by a program (rbad1.py). Walks: the reference's Gcd. Printed by a program. Walks: the reference's Sub. Printed by a program. Walks: the reference's Sub where an argument is not right. Printed by a program (rsubbad.py) from Tm. The module and the reference, told together: whatever the arguments, both hand back the same. Walks: the reference's Right of fractions. -/
import Derived.Test.YtlbjaimgoiimgaaXan
import Derived.Test.YtlbjaimgoiimgaaXam
import Derived.Test.YtlbjaimgoiimgaaXaf
import Derived.Test.YtlbjaimgoiimgaaXaj
import Derived.Deep.RegionHeld3
import Derived.Deep.QuietTactic

namespace Go.Proofs.Ytlbjaimgoiimgaa
open Go.RowKit

set_option maxRecDepth 100000 in
set_option maxHeartbeats 2000000 in
theorem compare_bad {s1 s2 : Int} {l1 l2 : List Int} {A1 A2 : Option Addr} {n1 c1 n2 c2 : Nat} {w : World} (h1 : Ar w s1 l1 A1 n1 c1) (h2 : Ar w s2 l2 A2 n2 c2) (hb : ¬ (RightP s1 l1 ∧ RightP s2 l2)) :
    Calls Try.prog 82 #[.agg #[.int .i64 s1, .slice A1 n1 c1], .agg #[.int .i64 s2, .slice A2 n2 c2]] w fun e w' => e = .returned (.int .i64 0) ∧ Below w.heap.size w w' := by
  have hH := fun (w' : World) (h : Below w.heap.size w w') (b : Bool) => (h1.later h).right b
  have hG := fun (w' : World) (h : Below w.heap.size w w') (b : Bool) => (h2.later h).right b
  have HH := Lib.hid hH; clear hH
  have HG := Lib.hid hG; clear hG
  have HB := Lib.hid hb; clear hb
  by_cases hr : RightP s1 l1
  · have hn : ¬ RightP s2 l2 := fun h => HB.out ⟨hr, h⟩
    have HR := Lib.hid hr; clear hr
    have HN := Lib.hid hn; clear hn
    clear h1 h2
    go_enter Try.func82, Try.ntmps82
    go_wp2_with fail
    obtain ⟨w1, hw1, hb1, k1, k2, _⟩ := boxes2 w #[.int .i64 s1, .slice A1 n1 c1] #[.int .i64 s2, .slice A2 n2 c2]
    rw [← hw1]
    clear hw1
    (with_reducible refine (HH.out w1 hb1 true (by simp [HR.out])).mono ?_)
    rintro e w2 ⟨rfl, hb2⟩
    have k2 := k2.below hb2 k2.lt
    have hb2 := hb1.trans (hb2.mono hb1.size)
    have j1 : w2.cell? ⟨w.heap.size + 1, 0, none⟩ = some (.int .i64 s2) := k2.cell 0
    have j2 : w2.cell? ⟨w.heap.size + 1, 1, none⟩ = some (.slice A2 n2 c2) := k2.cell 1
    go_wp2_with fail
    clear j1 j2
    (with_reducible refine (HG.out w2 hb2 false (by simp [HN.out])).mono ?_)
    rintro e w3 ⟨rfl, hb3⟩
    have hb3 := hb2.trans (hb3.mono hb2.size)
    clear k1 k2 hb1 hb2 HH HG
    go_wp2_with fail
    go_ret
    exact ⟨rfl, hb3⟩
  · have HN := Lib.hid hr; clear hr
    clear h1 h2
    go_enter Try.func82, Try.ntmps82
    go_wp2_with fail
    obtain ⟨w1, hw1, hb1, k1, k2, _⟩ := boxes2 w #[.int .i64 s1, .slice A1 n1 c1] #[.int .i64 s2, .slice A2 n2 c2]
    rw [← hw1]
    clear hw1
    (with_reducible refine (HH.out w1 hb1 false (by simp [HN.out])).mono ?_)
    rintro e w2 ⟨rfl, hb2⟩
    have hb2 := hb1.trans (hb2.mono hb1.size)
    clear k1 k2 hb1 HH HG
    go_wp2_with fail
    go_ret
    exact ⟨rfl, hb2⟩

set_option maxRecDepth 100000 in
set_option maxHeartbeats 2000000 in
theorem neg_bad {s1 : Int} {l1 : List Int} {A1 : Option Addr} {n1 c1 : Nat} {w : World} (h1 : Ar w s1 l1 A1 n1 c1) (hb : ¬ RightP s1 l1) :
    Calls Try.prog 74 #[.agg #[.int .i64 s1, .slice A1 n1 c1]] w fun e w' => e = .returned (.agg #[.int .i64 0, .slice none 0 0]) ∧ Below w.heap.size w w' := by
  have hH := fun (w' : World) (h : Below w.heap.size w w') (b : Bool) => (h1.later h).right b
  have HH := Lib.hid hH; clear hH
  have HN := Lib.hid hb; clear hb
  clear h1
  have hb1 := (Below.refl w.heap.size w).alloc (Nat.le_refl _) (.cells #[.int .i64 s1, .slice A1 n1 c1] 38)
  clear hb1
  go_enter Try.func74, Try.ntmps74
  go_wp2_with fail
  obtain ⟨w1, hw1, hb1, k1, k3, _⟩ := boxes2 w #[.int .i64 s1, .slice A1 n1 c1] #[.int .i64 0, .slice none 0 0]
  rw [← hw1]
  clear hw1
  (with_reducible refine (HH.out w1 hb1 false (by simp [HN.out])).mono ?_)
  rintro e w2 ⟨rfl, hb2⟩
  have k3 := k3.below hb2 k3.lt
  have hb2 := hb1.trans (hb2.mono hb1.size)
  clear k1 hb1 HH
  obtain ⟨g, hg⟩ : ∃ g, w.heap.size + 1 = g := ⟨_, rfl⟩
  have hgw : w.heap.size ≤ g := by omega
  rw [hg] at k3 ⊢
  clear hg
  have c30 : w2.cell? ⟨g, 0, none⟩ = some (.int .i64 0) := k3.cell 0
  have c31 : w2.cell? ⟨g, 1, none⟩ = some (.slice none 0 0) := k3.cell 1
  have f30 := k3.frozen 0
  have f31 := k3.frozen 1
  have hbs := k3.set2 (.int .i64 0) (.slice none 0 0)
  have d0 := hbs.cell 0
  have d1 := hbs.cell 1
  simp at d0 d1
  have hb9 := (hb2.setCell (p := ⟨g, 0, none⟩) hgw (.int .i64 0)).setCell (p := ⟨g, 1, none⟩) hgw (.slice none 0 0)
  go_wp2_with fail
  refine bodyPost_ret (v := .agg #[.int .i64 0, .slice none 0 0]) (by simp [results, Try.results74, go_sem, d0, d1]) rfl ?_
  exact ⟨rfl, hb9⟩


set_option maxRecDepth 100000 in
set_option maxHeartbeats 2000000 in
theorem rneg_bad {s1 : Int} {l1 : List Int} {A1 : Option Addr} {n1 c1 : Nat} {w : World} (h1 : Ar w s1 l1 A1 n1 c1) (hb : ¬ RightP s1 l1) :
    Calls Try.prog 62 #[.agg #[.int .i64 s1, .slice A1 n1 c1]] w fun e w' => e = .returned (.agg #[.int .i64 0, .slice none 0 0]) ∧ Below w.heap.size w w' := by
  have hH := fun (w' : World) (h : Below w.heap.size w w') (b : Bool) => rRight_any s1 l1 A1 n1 c1 w' (h1.later h) b
  have HH := Lib.hid hH; clear hH
  have HN := Lib.hid hb; clear hb
  clear h1
  have hb1 := (Below.refl w.heap.size w).alloc (Nat.le_refl _) (.cells #[.int .i64 s1, .slice A1 n1 c1] 38)
  clear hb1
  go_enter Try.func62, Try.ntmps62
  go_wp2_with fail
  obtain ⟨w1, hw1, hb1, k1, k3, _⟩ := boxes2 w #[.int .i64 s1, .slice A1 n1 c1] #[.int .i64 0, .slice none 0 0]
  rw [← hw1]
  clear hw1
  (with_reducible refine (HH.out w1 hb1 false (by simp [HN.out])).mono ?_)
  rintro e w2 ⟨rfl, hb2⟩
  have k3 := k3.below hb2 k3.lt
  have hb2 := hb1.trans (hb2.mono hb1.size)
  clear k1 hb1 HH
  obtain ⟨g, hg⟩ : ∃ g, w.heap.size + 1 = g := ⟨_, rfl⟩
  have hgw : w.heap.size ≤ g := by omega
  rw [hg] at k3 ⊢
  clear hg
  have c30 : w2.cell? ⟨g, 0, none⟩ = some (.int .i64 0) := k3.cell 0
  have c31 : w2.cell? ⟨g, 1, none⟩ = some (.slice none 0 0) := k3.cell 1
  have f30 := k3.frozen 0
  have f31 := k3.frozen 1
  have hbs := k3.set2 (.int .i64 0) (.slice none 0 0)
  have d0 := hbs.cell 0
  have d1 := hbs.cell 1
  simp at d0 d1
  have hb9 := (hb2.setCell (p := ⟨g, 0, none⟩) hgw (.int .i64 0)).setCell (p := ⟨g, 1, none⟩) hgw (.slice none 0 0)
  go_wp2_with fail
  refine bodyPost_ret (v := .agg #[.int .i64 0, .slice none 0 0]) (by simp [results, Try.results62, go_sem, d0, d1]) rfl ?_
  exact ⟨rfl, hb9⟩


end Go.Proofs.Ytlbjaimgoiimgaa

namespace Go.Proofs.Ytlbjaimgoiimgaa
open Go.RowKit

set_option maxRecDepth 100000 in
set_option maxHeartbeats 8000000 in
theorem rgcd_any {s1 s2 : Int} {A1 A2 : Option Addr} {n1 c1 n2 c2 : Nat} {x y : Int} (w : World) (h1 : BV w w.heap.size (.agg #[.int .i64 s1, .slice A1 n1 c1]) x) (h2 : BV w w.heap.size (.agg #[.int .i64 s2, .slice A2 n2 c2]) y) (hx : ab x < pw 60) (hy : ab y < pw 60) :
    Calls Try.prog 63 #[.agg #[.int .i64 s1, .slice A1 n1 c1], .agg #[.int .i64 s2, .slice A2 n2 c2]] w fun e w' => ∃ r, e = .returned (.tuple #[r, .int .i64 0]) ∧ BO w' w.heap.size r ((Int.gcd x y : Nat) : Int) ∧ Below w.heap.size w w' := by
  have hs1 := (bv_sv h1).2.1
  have hs2 := (bv_sv h2).2.1
  have hl1 : (D (ab x)).length ≤ 60 := (D_len_le (ab_nonneg x)).2 hx
  have hl2 : (D (ab y)).length ≤ 60 := (D_len_le (ab_nonneg y)).2 hy
  have hr1 := fun (w' : World) (hbw : Below w.heap.size w w') => rRight_yes (h1.later hbw) hx
  have hr2 := fun (w' : World) (hbw : Below w.heap.size w w') => rRight_yes (h2.later hbw) hy
  have HR1 := Lib.hid hr1; clear hr1
  have HR2 := Lib.hid hr2; clear hr2
  have hs1' := fun (w' : World) (hbw : Below w.heap.size w w') => (bv_sv (h1.later hbw)).1
  have hs2' := fun (w' : World) (hbw : Below w.heap.size w w') => (bv_sv (h2.later hbw)).1
  have HS1 := Lib.hid hs1'; clear hs1'
  have HS2 := Lib.hid hs2'; clear hs2'
  have HX := Lib.hid hx; clear hx
  have HY := Lib.hid hy; clear hy
  obtain ⟨G, hG⟩ : ∃ G, ((Int.gcd x y : Nat) : Int) = G := ⟨_, rfl⟩
  rw [hG]
  have hg2 : ((Int.gcd (ab x) (ab y) : Nat) : Int) = G := by rw [← hG]; unfold ab; simp [Int.gcd]
  have HG := Lib.hid hg2; clear hG hg2
  clear hs1 hs2 hl1 hl2 h1 h2
  obtain ⟨W, hW, hbx, k1, k2, kR, hsz⟩ := boxes3 w #[.int .i64 s1, .slice A1 n1 c1] #[.int .i64 s2, .slice A2 n2 c2] #[.int .i64 0, .slice none 0 0]
  go_enter Try.func63, Try.ntmps63
  go_wp2_with fail
  rw [← hW]
  clear hW hsz
  have hT := hbx
  have a0 := k1.cell 0
  have a1 := k1.cell 1
  simp at a0 a1
  go_wp2_with fail
  clear a0 a1
  (with_reducible refine (HR1.out _ hT).mono ?_)
  rintro e u1 ⟨rfl, hb9⟩
  have hT := hT.trans (hb9.mono hT.size)
  have k1 := k1.below hb9 k1.lt
  have k2 := k2.below hb9 k2.lt
  have kR := kR.below hb9 kR.lt
  have b0 := k2.cell 0
  have b1 := k2.cell 1
  simp at b0 b1
  go_wp2_with fail
  clear b0 b1
  (with_reducible refine (HR2.out _ hT).mono ?_)
  rintro e u ⟨rfl, hb9⟩
  have hT := hT.trans (hb9.mono hT.size)
  have k1 := k1.below hb9 k1.lt
  have k2 := k2.below hb9 k2.lt
  have kR := kR.below hb9 kR.lt
  have a0 := k1.cell 0
  have a1 := k1.cell 1
  have b0 := k2.cell 0
  have b1 := k2.cell 1
  simp at a0 a1 b0 b1
  go_wp2_with fail
  clear a0 a1 b0 b1 k1 k2
  have hlt := kR.lt
  go_loopg [6, 7] (ab y).toNat (fun g vx vy wr => ∃ X Y : Int, g = Y.toNat ∧ Sv wr vx (D X) ∧ Sv wr vy (D Y) ∧ 0 ≤ X ∧ 0 ≤ Y ∧ Hid (X < pw 60) ∧ Hid (Y < pw 60) ∧ Hid (((Int.gcd X Y : Nat) : Int) = G) ∧ Below u.heap.size u wr)
  case atStart => exact ⟨ab x, ab y, rfl, HS1.out _ hT, HS2.out _ hT, ab_nonneg _, ab_nonneg _, HX, HY, HG, Below.refl _ _⟩
  case round =>
    obtain ⟨X, Y, hg, ⟨Ax, cx, rfl, hx1, hx2, hx3⟩, ⟨Ay, cy, rfl, hy1, hy2, hy3⟩, hX0, hY0, hXl, hYl, hgc, hbw⟩ := hrel
    have hvx : Sv wr (.slice Ax (D X).length cx) (D X) := ⟨Ax, cx, rfl, hx1, hx2, hx3⟩
    have hvy : Sv wr (.slice Ay (D Y).length cy) (D Y) := ⟨Ay, cy, rfl, hy1, hy2, hy3⟩
    clear hx1 hx2 hx3 hy1 hy2 hy3
    have hs := hbw.size
    by_cases hy0 : 0 < Y
    · have hov := rover_any (D X) (D Y) _ _ wr hvx hvy (Dig_D _) (Dig_D _) (by have := (D_len_le hX0).2 hXl.out; omega) (by have := (D_len_le hY0).2 hYl.out; omega) Y (nv_D hY0) (by omega)
      rw [nv_D hX0] at hov
      have hlp := D_len_pos hy0
      have hm0 := Int.emod_nonneg X (b := Y) (by omega)
      have hm1 := Int.emod_lt_of_pos X (b := Y) (by omega)
      have hgm : ((Int.gcd Y (X % Y) : Nat) : Int) = G := by rw [← hgc.out, Int.emod_def, Int.mul_comm, Int.gcd_sub_mul_right_right, Int.gcd_comm]
      obtain ⟨m, hm⟩ : ∃ m, X % Y = m := ⟨_, rfl⟩
      rw [hm] at hov hm0 hm1 hgm
      obtain ⟨n, hn⟩ : ∃ n, (D Y).length = n := ⟨_, rfl⟩
      obtain ⟨nx, hnx⟩ : ∃ n, (D X).length = n := ⟨_, rfl⟩
      rw [hnx] at hov ⊢
      rw [hn] at hlp hov hvy ⊢
      have HVY := Lib.hid hvy; clear hvy hnx
      have HOV := Lib.hid hov; clear hov
      have HGM := Lib.hid hgm; clear hgm
      have HGG := Lib.hid hg; clear hg
      clear hm hn hvx
      go_wp2_with fail
      (with_reducible refine HOV.out.mono ?_)
      rintro e w5 ⟨v1, v2, rfl, hv1, hv2, hb5⟩
      go_wp2_with fail
      go_roundg m.toNat
      case measure => have := HGG.out; omega
      case rel => exact ⟨Y, m, rfl, HVY.out.later hb5, hv2.sv, hY0, hm0, hYl, Lib.hid (by have := hYl.out; omega), HGM, hbw.trans (hb5.mono hs)⟩
    · have hy00 : Y = 0 := by omega
      subst hy00
      have hXG : X = G := by
        have := hgc.out
        rw [Int.gcd_zero_right] at this
        omega
      have hmd := rmade_any (D X) 1 G _ wr hvx (Dig_D _) (by have := (D_len_le hX0).2 hXl.out; omega) (by rw [nv_D hX0, hXG, Int.one_mul]) (.inl rfl)
      clear hvy
      obtain ⟨nx, hnx⟩ : ∃ n, (D X).length = n := ⟨_, rfl⟩
      rw [hnx] at hmd ⊢
      clear hnx
      obtain ⟨n, hn⟩ : ∃ n, (D 0).length = n := ⟨_, rfl⟩
      have hn0 : n = 0 := by rw [← hn, D_zero]; rfl
      rw [hn]
      subst hn0
      have HMD := Lib.hid hmd; clear hmd
      have hT := hT.trans (hbw.mono hT.size)
      have kR := kR.below hbw kR.lt
      have hltR := kR.lt
      clear hn hXG hvx hg
      go_wp2_with fail
      (with_reducible refine HMD.out.mono ?_)
      rintro e w5 ⟨r, rfl, hr, hb5⟩
      have hT := hT.trans (hb5.mono hT.size)
      have kR := kR.below hb5 hltR
      obtain ⟨s6, A6, n6, c6, rfl⟩ := hr.form
      have r0 := kR.cell 0
      have r1 := kR.cell 1
      have f0 := kR.frozen 0
      have f1 := kR.frozen 1
      simp at r0 r1
      have hbs := kR.set2 (.int .i64 s6) (.slice A6 n6 c6)
      have x0 := hbs.cell 0
      have x1 := hbs.cell 1
      simp at x0 x1
      go_wp2_with fail
      refine bodyPost_ret (v := .tuple #[.agg #[.int .i64 s6, .slice A6 n6 c6], .int .i64 0]) (by simp [results, Try.results63, go_sem, x0, x1]) rfl ?_
      exact ⟨_, rfl, (hr.far2 hltR _ _).mono (by omega), below_st hT (by omega) _ _⟩

end Go.Proofs.Ytlbjaimgoiimgaa

namespace Go.Proofs.Ytlbjaimgoiimgaa
open Go.RowKit

end Go.Proofs.Ytlbjaimgoiimgaa

namespace Go.Proofs.Ytlbjaimgoiimgaa
open Go.RowKit

structure Ab (W : World) (g : Nat) (s : Int) (l : List Int) (A : Option Addr) (n c : Nat) : Prop where
  blk : Blk W g 38 #[.int .i64 s, .slice A n c]
  ar : Ar W s l A n c
section
variable {W W' : World} {g : Nat} {s : Int} {l : List Int} {A : Option Addr} {n c : Nat}
theorem Ab.below (h : Ab W g s l A n c) (hb : Below W.heap.size W W') : Ab W' g s l A n c := ⟨h.blk.below hb h.blk.lt, h.ar.later hb⟩
theorem Ab.c0 (h : Ab W g s l A n c) : W.cell? ⟨g, 0, none⟩ = some (.int .i64 s) := h.blk.cell 0
theorem Ab.c1 (h : Ab W g s l A n c) : W.cell? ⟨g, 1, none⟩ = some (.slice A n c) := h.blk.cell 1
end

end Go.Proofs.Ytlbjaimgoiimgaa

namespace Go.Proofs.Ytlbjaimgoiimgaa
open Go.RowKit

/-- A big integer and an error. -/
def Res2 (Z E : Int) (w : World) (e : Ending) (w' : World) : Prop := ∃ r, e = .returned (.tuple #[r, .int .i64 E]) ∧ BO w' w.heap.size r Z ∧ Below w.heap.size w w'
/-- Two big integers and an error. -/
def Res3 (Q R E : Int) (w : World) (e : Ending) (w' : World) : Prop := ∃ r1 r2, e = .returned (.tuple #[r1, r2, .int .i64 E]) ∧ BO w' w.heap.size r1 Q ∧ BO w' w.heap.size r2 R ∧ Below w.heap.size w w'
/-- A value without memory. -/
def ResV (v : Value) (w : World) (e : Ending) (w' : World) : Prop := e = .returned v ∧ Below w.heap.size w w'
/-- From w on both functions do the same with these arguments. -/
@[reducible] def Both (p q : Nat) (args : Array Value) (w : World) (P : World → Ending → World → Prop) : Prop := ∀ w1, Below w.heap.size w w1 → Calls Try.prog p args w1 (P w1) ∧ Calls Try.prog q args w1 (P w1)

theorem res2_zero {E : Int} {w w' : World} {e : Ending} (h : e = .returned (.tuple #[.agg #[.int .i64 0, .slice none 0 0], .int .i64 E]) ∧ Below w.heap.size w w') : Res2 0 E w e w' := ⟨_, h.1, BO.zero _ _, h.2⟩
theorem res3_zero {E : Int} {w w' : World} {e : Ending} (h : e = .returned (.tuple #[.agg #[.int .i64 0, .slice none 0 0], .agg #[.int .i64 0, .slice none 0 0], .int .i64 E]) ∧ Below w.heap.size w w') : Res3 0 0 E w e w' := ⟨_, _, h.1, BO.zero _ _, BO.zero _ _, h.2⟩

section
variable {s1 s2 : Int} {l1 l2 : List Int} {A1 A2 : Option Addr} {n1 c1 n2 c2 : Nat} {w : World}
theorem Ar.zz (h : Ar w s1 l1 A1 n1 c1) (hr : RightP s1 l1) : ∃ z, ab z < pw 60 ∧ ∀ w1, Below w.heap.size w w1 → BV w1 w1.heap.size (.agg #[.int .i64 s1, .slice A1 n1 c1]) z := by
  obtain ⟨z, hz, _, h6, _⟩ := h.z hr
  exact ⟨z, h6, fun w1 hb => (hz.below hb).more hb.size⟩

theorem both_gcd (h1 : Ar w s1 l1 A1 n1 c1) (h2 : Ar w s2 l2 A2 n2 c2) :
    ∃ Z E, Both 33 63 #[.agg #[.int .i64 s1, .slice A1 n1 c1], .agg #[.int .i64 s2, .slice A2 n2 c2]] w (Res2 Z E) := by
  by_cases hr : RightP s1 l1 ∧ RightP s2 l2
  · obtain ⟨x, hx6, hx⟩ := h1.zz hr.1
    obtain ⟨y, hy6, hy⟩ := h2.zz hr.2
    exact ⟨_, _, fun w1 hb => ⟨gcd_any x y _ _ w1 (hx w1 hb) (hy w1 hb) hx6 hy6, rgcd_any w1 (hx w1 hb) (hy w1 hb) hx6 hy6⟩⟩
  · exact ⟨_, _, fun w1 hb => ⟨(gcd_bad (h1.later hb) (h2.later hb) hr).mono fun _ _ h => res2_zero h, (rgcd_bad (h1.later hb) (h2.later hb) hr).mono fun _ _ h => res2_zero h⟩⟩

/-- The quotient and the remainder are the only ones. -/
theorem qr_one {x y q r q' r' : Int} (h : QR x y q r) (h' : QR x y q' r') : q = q' ∧ r = r' := by
  obtain ⟨e1, s1, b1, _⟩ := h
  obtain ⟨e2, s2, b2, _⟩ := h'
  have hy : y ≠ 0 := fun h => by
    rw [h, ab_zero] at b1
    have := ab_nonneg r
    omega
  have hd : (q - q') * y = r' - r := by
    rw [Int.sub_mul]
    omega
  have hlt : -ab y < r' - r ∧ r' - r < ab y := by
    have key : ∀ r : Int, (r = 0 ∨ sgn r = sgn y) → ab r < ab y → (0 < y ∧ 0 ≤ r ∧ r < ab y) ∨ (y < 0 ∧ r ≤ 0 ∧ -ab y < r) := by
      intro r hs hb
      rcases sgn_three r with ⟨h1, h2⟩ | ⟨h1, h2⟩ | ⟨h1, h2⟩ <;> rcases sgn_three y with ⟨h3, h4⟩ | ⟨h3, h4⟩ | ⟨h3, h4⟩ <;> rw [h2, h4] at hs <;> unfold ab at hb ⊢ <;> omega
    rcases key r s1 b1 with h | h <;> rcases key r' s2 b2 with h' | h' <;> omega
  have hq : q - q' = 0 := by
    rw [← hd] at hlt
    rcases Int.lt_trichotomy (q - q') 0 with h | h | h
    · exfalso
      have h0 : ab y ≤ ab ((q - q') * y) := by
        rw [ab_mul]
        have := Int.mul_le_mul_of_nonneg_right (show 1 ≤ ab (q - q') by unfold ab; omega) (ab_nonneg y)
        omega
      unfold ab at h0 hlt
      omega
    · exact h
    · exfalso
      have h0 : ab y ≤ ab ((q - q') * y) := by
        rw [ab_mul]
        have := Int.mul_le_mul_of_nonneg_right (show 1 ≤ ab (q - q') by unfold ab; omega) (ab_nonneg y)
        omega
      unfold ab at h0 hlt
      omega
  rw [hq, Int.zero_mul] at hd
  omega
theorem both_div (h1 : Ar w s1 l1 A1 n1 c1) (h2 : Ar w s2 l2 A2 n2 c2) :
    ∃ Q R E, Both 75 64 #[.agg #[.int .i64 s1, .slice A1 n1 c1], .agg #[.int .i64 s2, .slice A2 n2 c2]] w (Res3 Q R E) := by
  by_cases hr : RightP s1 l1 ∧ RightP s2 l2
  · obtain ⟨x, hx6, hx⟩ := h1.zz hr.1
    obtain ⟨y, hy6, hy⟩ := h2.zz hr.2
    by_cases hy0 : y = 0
    · subst hy0
      exact ⟨_, _, _, fun w1 hb => ⟨(div_zero x _ _ w1 (hx w1 hb) (hy w1 hb) hx6).mono fun _ _ h => res3_zero h, (rdiv_zero x _ _ w1 (hx w1 hb) (hy w1 hb) hx6).mono fun _ _ h => res3_zero h⟩⟩
    · by_cases he : ∃ q r, QR x y q r
      · obtain ⟨q, r, hqr⟩ := he
        refine ⟨q, r, 0, fun w1 hb => ⟨(div_any x y _ _ w1 (hx w1 hb) (hy w1 hb) hx6 hy6 hy0).mono ?_, (rdiv_any w1 (hx w1 hb) (hy w1 hb) hx6 hy6 hy0).mono ?_⟩⟩
        · rintro e w' ⟨r1, r2, q', r', he, hq, hr, h, hb'⟩
          obtain ⟨rfl, rfl⟩ := qr_one hqr h
          exact ⟨r1, r2, he, hq, hr, hb'⟩
        · rintro e w' ⟨r1, r2, q', r', he, hq, hr, h, hb'⟩
          obtain ⟨rfl, rfl⟩ := qr_one hqr h
          exact ⟨r1, r2, he, hq, hr, hb'⟩
      · refine ⟨0, 0, 0, fun w1 hb => ⟨(div_any x y _ _ w1 (hx w1 hb) (hy w1 hb) hx6 hy6 hy0).mono ?_, (rdiv_any w1 (hx w1 hb) (hy w1 hb) hx6 hy6 hy0).mono ?_⟩⟩
        · rintro e w' ⟨r1, r2, q', r', _, _, _, h, _⟩
          exact absurd ⟨q', r', h⟩ he
        · rintro e w' ⟨r1, r2, q', r', _, _, _, h, _⟩
          exact absurd ⟨q', r', h⟩ he
  · exact ⟨_, _, _, fun w1 hb => ⟨(div_bad (h1.later hb) (h2.later hb) hr).mono fun _ _ h => res3_zero h, (rdiv_bad (h1.later hb) (h2.later hb) hr).mono fun _ _ h => res3_zero h⟩⟩
theorem both_right (h1 : Ar w s1 l1 A1 n1 c1) : ∃ b, Both 47 61 #[.agg #[.int .i64 s1, .slice A1 n1 c1]] w (ResV (.bool b)) := by
  by_cases hr : RightP s1 l1
  · exact ⟨true, fun w1 hb => ⟨(h1.later hb).right true ⟨fun _ => hr, fun _ => rfl⟩, rRight_any s1 l1 A1 n1 c1 w1 (h1.later hb) true ⟨fun _ => hr, fun _ => rfl⟩⟩⟩
  · have hf : false = true ↔ RightP s1 l1 := ⟨fun h => (by cases h), fun h => absurd h hr⟩
    exact ⟨false, fun w1 hb => ⟨(h1.later hb).right false hf, rRight_any s1 l1 A1 n1 c1 w1 (h1.later hb) false hf⟩⟩
theorem both_neg (h1 : Ar w s1 l1 A1 n1 c1) : ∃ Z, Both 74 62 #[.agg #[.int .i64 s1, .slice A1 n1 c1]] w (OfP Z) := by
  by_cases hr : RightP s1 l1
  · obtain ⟨x, hx6, hx⟩ := h1.zz hr
    exact ⟨_, fun w1 hb => ⟨neg_any x _ w1 (hx w1 hb) hx6, rneg_any w1 (hx w1 hb) hx6⟩⟩
  · exact ⟨0, fun w1 hb => ⟨(neg_bad (h1.later hb) hr).mono fun _ _ h => ⟨_, h.1, BO.zero _ _, h.2⟩, (rneg_bad (h1.later hb) hr).mono fun _ _ h => ⟨_, h.1, BO.zero _ _, h.2⟩⟩⟩
theorem both_of {z : Int} (h0 : -9223372036854775808 ≤ z) (h1 : z ≤ 9223372036854775807) : ∃ Z, Both 35 42 #[.int .i64 z] w (OfP Z) :=
  ⟨z, fun w1 _ => ⟨of_any z w1 h0 h1, rof_any z w1 h0 h1⟩⟩
end

end Go.Proofs.Ytlbjaimgoiimgaa

namespace Go.Proofs.Ytlbjaimgoiimgaa
open Go.RowKit

end Go.Proofs.Ytlbjaimgoiimgaa
