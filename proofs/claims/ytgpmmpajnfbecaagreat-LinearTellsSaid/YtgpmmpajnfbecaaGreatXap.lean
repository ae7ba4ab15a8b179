/- Memory: fractions: those that are read, those that the call owns, boxes that hold them. Walks: Right of fractions. Memory: a fraction's result box; owned results behind stores. -/
import Derived.Test.YtgpmmpajnfbecaaGreatXan
import Derived.Test.YtgpmmpajnfbecaaGreatXao
import Derived.Test.YtgpmmpajnfbecaaGreatXaj
import Derived.Deep.QuietTactic
import Derived.BigQuiet

namespace Go.Proofs.YtgpmmpajnfbecaaGreat
open Go.RowKit

/-- Cells of a fraction. -/
def fc (s1 : Int) (A1 : Option Addr) (n1 c1 : Nat) (s2 : Int) (A2 : Option Addr) (n2 c2 : Nat) : Array Value := #[.int .i64 s1, .slice A1 n1 c1, .int .i64 s2, .slice A2 n2 c2]
/-- A fraction that reads as p and q. -/
structure FV (w : World) (B : Nat) (s1 : Int) (A1 : Option Addr) (n1 c1 : Nat) (s2 : Int) (A2 : Option Addr) (n2 c2 : Nat) (p q : Int) : Prop where
  a : BV w B (.agg #[.int .i64 s1, .slice A1 n1 c1]) p
  b : BV w B (.agg #[.int .i64 s2, .slice A2 n2 c2]) q
/-- A fraction that the call owns from block B on. -/
def FO (w : World) (B : Nat) (r : Value) (p q : Int) : Prop :=
  ∃ s1 A1 n1 c1 s2 A2 n2 c2, r = .agg #[.int .i64 s1, .slice A1 n1 c1, .int .i64 s2, .slice A2 n2 c2] ∧ BO w B (.agg #[.int .i64 s1, .slice A1 n1 c1]) p ∧ BO w B (.agg #[.int .i64 s2, .slice A2 n2 c2]) q
section
variable {w w' W W' : World} {B B' g g' : Nat} {r : Value} {p q p' q' s1 s2 t1 t2 : Int} {A1 A2 C1 C2 : Option Addr} {n1 d1 n2 d2 m1 e1 m2 e2 : Nat}
theorem FV.later (h : FV w w.heap.size s1 A1 n1 d1 s2 A2 n2 d2 p q) (hb : Below w.heap.size w w') : FV w' w'.heap.size s1 A1 n1 d1 s2 A2 n2 d2 p q := ⟨h.a.later hb, h.b.later hb⟩
theorem FO.below (h : FO w B r p q) (hb : Below w.heap.size w w') : FO w' B r p q := by
  obtain ⟨s1, A1, n1, c1, s2, A2, n2, c2, e, h1, h2⟩ := h
  exact ⟨s1, A1, n1, c1, s2, A2, n2, c2, e, h1.below hb, h2.below hb⟩
theorem FO.mono (h : FO w B r p q) (hb : B' ≤ B) : FO w B' r p q := by
  obtain ⟨s1, A1, n1, c1, s2, A2, n2, c2, e, h1, h2⟩ := h
  exact ⟨s1, A1, n1, c1, s2, A2, n2, c2, e, h1.mono hb, h2.mono hb⟩
theorem FO.form (h : FO w B r p q) : ∃ s1 A1 n1 c1 s2 A2 n2 c2, r = .agg #[.int .i64 s1, .slice A1 n1 c1, .int .i64 s2, .slice A2 n2 c2] := by
  obtain ⟨s1, A1, n1, c1, s2, A2, n2, c2, e, _⟩ := h
  exact ⟨s1, A1, n1, c1, s2, A2, n2, c2, e⟩
theorem FO.zero (w : World) (B : Nat) : FO w B (.agg #[.int .i64 0, .slice none 0 0, .int .i64 0, .slice none 0 0]) 0 0 := ⟨0, none, 0, 0, 0, none, 0, 0, rfl, BO.zero _ _, BO.zero _ _⟩
theorem FO.fv (h : FO w B (.agg #[.int .i64 s1, .slice A1 n1 d1, .int .i64 s2, .slice A2 n2 d2]) p q) : FV w w.heap.size s1 A1 n1 d1 s2 A2 n2 d2 p q := by
  obtain ⟨s1', A1', n1', c1', s2', A2', n2', c2', e, h1, h2⟩ := h
  injection e with e
  have e0 := congrArg (fun (a : Array Value) => a[0]?) e
  have e1 := congrArg (fun (a : Array Value) => a[1]?) e
  have e2 := congrArg (fun (a : Array Value) => a[2]?) e
  have e3 := congrArg (fun (a : Array Value) => a[3]?) e
  simp at e0 e1 e2 e3
  obtain ⟨rfl, rfl, rfl⟩ := e1
  obtain ⟨rfl, rfl, rfl⟩ := e3
  subst e0 e2
  exact ⟨h1.bv, h2.bv⟩

/-- A box that holds a fraction. -/
structure Bf (t : TypeId) (W : World) (g : Nat) (s1 : Int) (A1 : Option Addr) (n1 c1 : Nat) (s2 : Int) (A2 : Option Addr) (n2 c2 : Nat) (p q : Int) : Prop where
  blk : Blk W g t #[.int .i64 s1, .slice A1 n1 c1, .int .i64 s2, .slice A2 n2 c2]
  fv : FV W W.heap.size s1 A1 n1 c1 s2 A2 n2 c2 p q
variable {t : TypeId}
theorem Bf.below (h : Bf t W g s1 A1 n1 d1 s2 A2 n2 d2 p q) (hb : Below W.heap.size W W') : Bf t W' g s1 A1 n1 d1 s2 A2 n2 d2 p q := ⟨h.blk.below hb h.blk.lt, h.fv.later hb⟩
theorem Bf.c0 (h : Bf t W g s1 A1 n1 d1 s2 A2 n2 d2 p q) : W.cell? ⟨g, 0, none⟩ = some (.int .i64 s1) := h.blk.cell 0
theorem Bf.c1 (h : Bf t W g s1 A1 n1 d1 s2 A2 n2 d2 p q) : W.cell? ⟨g, 1, none⟩ = some (.slice A1 n1 d1) := h.blk.cell 1
theorem Bf.c2 (h : Bf t W g s1 A1 n1 d1 s2 A2 n2 d2 p q) : W.cell? ⟨g, 2, none⟩ = some (.int .i64 s2) := h.blk.cell 2
theorem Bf.c3 (h : Bf t W g s1 A1 n1 d1 s2 A2 n2 d2 p q) : W.cell? ⟨g, 3, none⟩ = some (.slice A2 n2 d2) := h.blk.cell 3
end

end Go.Proofs.YtgpmmpajnfbecaaGreat

namespace Go.Proofs.YtgpmmpajnfbecaaGreat
open Go.RowKit

theorem fbox1 {w : World} {s1 s2 : Int} {A1 A2 : Option Addr} {n1 d1 n2 d2 : Nat} {p q : Int} (h : FV w w.heap.size s1 A1 n1 d1 s2 A2 n2 d2 p q) :
    ∃ W, W = w.alloc (.cells #[.int .i64 s1, .slice A1 n1 d1, .int .i64 s2, .slice A2 n2 d2] 41) ∧ Below w.heap.size w W ∧ Bf 41 W w.heap.size s1 A1 n1 d1 s2 A2 n2 d2 p q := by
  have hb : Below w.heap.size w (w.alloc (.cells #[.int .i64 s1, .slice A1 n1 d1, .int .i64 s2, .slice A2 n2 d2] 41)) := (Below.refl _ _).alloc (Nat.le_refl _) _
  exact ⟨_, rfl, hb, Blk.new _ _ _, h.later hb⟩
theorem FV.sg {w : World} {B : Nat} {s1 s2 : Int} {A1 A2 : Option Addr} {n1 d1 n2 d2 : Nat} {p q : Int} (h : FV w B s1 A1 n1 d1 s2 A2 n2 d2 p q) : s2 = sgn q := by
  obtain ⟨A, c, e, _⟩ := h.b
  injection e with e
  have e0 := congrArg (fun (a : Array Value) => a[0]?) e
  simp at e0
  exact e0

set_option maxRecDepth 100000 in
set_option maxHeartbeats 4000000 in
theorem fright_pos {s1 s2 : Int} {A1 A2 : Option Addr} {n1 d1 n2 d2 : Nat} {p q : Int} (w : World) (h : FV w w.heap.size s1 A1 n1 d1 s2 A2 n2 d2 p q) (hp : ab p < pw 60) (hq : ab q < pw 60) (h0 : 0 < q) (b : Bool) (hb : decide (((Int.gcd p q : Nat) : Int) = 1) = b) :
    Calls Tryz.prog 30 #[.agg #[.int .i64 s1, .slice A1 n1 d1, .int .i64 s2, .slice A2 n2 d2]] w fun e w' => e = .returned (.bool b) ∧ Below w.heap.size w w' := by
  have HP := Lib.hid hp; clear hp
  have HQ := Lib.hid hq; clear hq
  have hs2 : s2 = 1 := by rw [h.sg, sgn_pos h0]
  subst hs2
  obtain ⟨d, hd⟩ : ∃ d, ((Int.gcd p q : Nat) : Int) = d := ⟨_, rfl⟩
  rw [hd] at hb
  have HB := Lib.hid hb; clear hb
  have HD := Lib.hid hd; clear hd h0
  go_enter Tryz.func30, Tryz.ntmps30
  go_wp2_with fail
  obtain ⟨W, hW, hbx, kf⟩ := fbox1 h
  rw [← hW]
  clear hW h
  have hT := hbx
  have f0 := kf.c0
  have f1 := kf.c1
  have f2 := kf.c2
  have f3 := kf.c3
  go_wp2_with fail
  clear f0 f1 f2 f3
  (with_reducible refine (gcd_any _ _ _ _ _ kf.fv.a kf.fv.b HP.out HQ.out).mono ?_)
  rintro e u1 ⟨rg, rfl, hrg, hb9⟩
  have hT := hT.trans (hb9.mono hT.size)
  have kf := kf.below hb9
  rw [HD.out] at hrg
  obtain ⟨sg, Ag, ng, cg, rfl⟩ := hrg.form
  go_upto_region 2 with fail
  obtain ⟨Wg, hW, hbx, kg⟩ := box1 hrg
  rw [← hW]
  clear hW
  have hT := hT.trans (hbx.mono hT.size)
  have kf := kf.below hbx
  have e0 : ∀ W' : World, Below Wg.heap.size Wg W' → W'.cell? ⟨u1.heap.size, 0, none⟩ = some (.int .i64 sg) ∧ W'.cell? ⟨u1.heap.size, 1, none⟩ = some (.slice Ag ng cg) ∧ W'.cell? ⟨w.heap.size, 2, none⟩ = some (.int .i64 1) ∧ Below Wg.heap.size Wg W' := fun W' hW =>
    ⟨(kg.below hW).c0, (kg.below hW).c1, (kf.below hW).c2, hW⟩
  have E0 := Lib.hid e0; clear e0
  have hss := fun (w' : World) (hb : Below Wg.heap.size Wg w') r (h : BV w' w'.heap.size r 1) => same_any d 1 _ r w' (kg.below hb).bv h
  rw [HB.out] at hss
  have HSS := Lib.hid hss; clear hss
  have hB00 : Below Wg.heap.size Wg Wg.drew := (Below.refl _ _).drew
  have hTs := hT.size
  clear kf kg
  go_region_held3 (fun W' => W'.cell? ⟨u1.heap.size, 0, none⟩ = some (.int .i64 sg) ∧ W'.cell? ⟨u1.heap.size, 1, none⟩ = some (.slice Ag ng cg) ∧ W'.cell? ⟨w.heap.size, 2, none⟩ = some (.int .i64 1) ∧ Below Wg.heap.size Wg W')
    (first | exact E0.out _ (by assumption) | exact E0.out _ ⟨rfl, rfl, rfl, Nat.le_refl _, fun _ _ => rfl⟩)
    (first
      | (go_at_call 55; have _h := hB4; refine (HSS.out _ hB4 _ hq1.bv).mono ?_; rintro e x5 ⟨rfl, hb5⟩; have hB5 : Below Wg.heap.size Wg x5 := hB4.trans (hb5.mono hB4.size))
      | (go_at_call 56; refine (of_any 1 _ (by omega) (by omega)).mono ?_; rintro e x4 ⟨r1, rfl, hq1, hb4⟩; have hB4 : Below Wg.heap.size Wg x4 := ⟨hb4.os, hb4.tape, hb4.output, hb4.size, hb4.block⟩))
  go_wp2_with fail
  go_ret
  exact ⟨rfl, hT.trans (hB5.mono hTs)⟩

set_option maxRecDepth 100000 in
set_option maxHeartbeats 4000000 in
theorem fright_low {s1 s2 : Int} {A1 A2 : Option Addr} {n1 d1 n2 d2 : Nat} {p q : Int} (w : World) (h : FV w w.heap.size s1 A1 n1 d1 s2 A2 n2 d2 p q) (hp : ab p < pw 60) (hq : ab q < pw 60) (h0 : ¬ 0 < q) :
    Calls Tryz.prog 30 #[.agg #[.int .i64 s1, .slice A1 n1 d1, .int .i64 s2, .slice A2 n2 d2]] w fun e w' => e = .returned (.bool false) ∧ Below w.heap.size w w' := by
  have HP := Lib.hid hp; clear hp
  have HQ := Lib.hid hq; clear hq
  have hs2 : decide (0 < s2) = false := by
    rw [h.sg]; unfold sgn; split <;> (try split) <;> simp <;> omega
  clear h0
  go_enter Tryz.func30, Tryz.ntmps30
  go_wp2_with fail
  obtain ⟨W, hW, hbx, kf⟩ := fbox1 h
  rw [← hW]
  clear hW h
  have hT := hbx
  have f0 := kf.c0
  have f1 := kf.c1
  have f2 := kf.c2
  have f3 := kf.c3
  go_wp2_with fail
  clear f0 f1 f2 f3
  (with_reducible refine (gcd_any _ _ _ _ _ kf.fv.a kf.fv.b HP.out HQ.out).mono ?_)
  rintro e u1 ⟨rg, rfl, hrg, hb9⟩
  have hT := hT.trans (hb9.mono hT.size)
  have kf := kf.below hb9
  obtain ⟨sg, Ag, ng, cg, rfl⟩ := hrg.form
  go_upto_region 2 with fail
  obtain ⟨Wg, hW, hbx, kg⟩ := box1 hrg
  rw [← hW]
  clear hW
  have hT := hT.trans (hbx.mono hT.size)
  have kf := kf.below hbx
  have f2 := kf.c2
  go_quiet (fail)
  go_wp2_with fail
  go_ret
  exact ⟨rfl, ⟨hT.os, hT.tape, hT.output, hT.size, hT.block⟩⟩

set_option maxRecDepth 100000 in
set_option maxHeartbeats 4000000 in
theorem fright_bad {s1 s2 : Int} {l1 l2 : List Int} {A1 A2 : Option Addr} {n1 d1 n2 d2 : Nat} (w : World) (h1 : Ar w s1 l1 A1 n1 d1) (h2 : Ar w s2 l2 A2 n2 d2) (hb : ¬ (RightP s1 l1 ∧ RightP s2 l2)) :
    Calls Tryz.prog 30 #[.agg #[.int .i64 s1, .slice A1 n1 d1, .int .i64 s2, .slice A2 n2 d2]] w fun e w' => e = .returned (.bool false) ∧ Below w.heap.size w w' := by
  have hB1 : Below w.heap.size w (w.alloc (.cells #[.int .i64 s1, .slice A1 n1 d1, .int .i64 s2, .slice A2 n2 d2] 41)) := (Below.refl _ _).alloc (Nat.le_refl _) _
  have hbk : Blk (w.alloc (.cells #[.int .i64 s1, .slice A1 n1 d1, .int .i64 s2, .slice A2 n2 d2] 41)) w.heap.size 41 #[.int .i64 s1, .slice A1 n1 d1, .int .i64 s2, .slice A2 n2 d2] := Blk.new _ _ _
  have hg := gcd_bad (h1.later hB1) (h2.later hB1) hb
  have HG := Lib.hid hg; clear hg h1 h2 hb
  go_enter Tryz.func30, Tryz.ntmps30
  go_wp2_with fail
  obtain ⟨W, hW⟩ : ∃ W, W = w.alloc (.cells #[.int .i64 s1, .slice A1 n1 d1, .int .i64 s2, .slice A2 n2 d2] 41) := ⟨_, rfl⟩
  rw [← hW] at hB1 hbk HG ⊢
  clear hW
  have f0 : W.cell? ⟨w.heap.size, 0, none⟩ = some (.int .i64 s1) := hbk.cell 0
  have f1 : W.cell? ⟨w.heap.size, 1, none⟩ = some (.slice A1 n1 d1) := hbk.cell 1
  have f2 : W.cell? ⟨w.heap.size, 2, none⟩ = some (.int .i64 s2) := hbk.cell 2
  have f3 : W.cell? ⟨w.heap.size, 3, none⟩ = some (.slice A2 n2 d2) := hbk.cell 3
  go_wp2_with fail
  clear f0 f1 f2 f3 hbk
  (with_reducible refine HG.out.mono ?_)
  rintro e u1 ⟨rfl, hb9⟩
  have hT := hB1.trans (hb9.mono hB1.size)
  go_upto_region 2 with fail
  have hT := hT.alloc hT.size (.cells #[.int .i64 0, .slice none 0 0] 39)
  go_quiet (fail)
  go_wp2_with fail
  go_ret
  exact ⟨rfl, ⟨hT.os, hT.tape, hT.output, hT.size, hT.block⟩⟩

end Go.Proofs.YtgpmmpajnfbecaaGreat

namespace Go.Proofs.YtgpmmpajnfbecaaGreat
open Go.RowKit

/-- A box of four cells. -/
structure Bz (W : World) (g : Nat) (a0 a1 a2 a3 : Value) : Prop where
  blk : Blk W g 41 #[a0, a1, a2, a3]
section
variable {w w' W W' : World} {B g g' : Nat} {a0 a1 a2 a3 r : Value} {s1 s2 z p q : Int} {A1 A2 : Option Addr} {n1 d1 n2 d2 : Nat}
theorem Bz.below (h : Bz W g a0 a1 a2 a3) (hb : Below W.heap.size W W') : Bz W' g a0 a1 a2 a3 := ⟨h.blk.below hb h.blk.lt⟩
theorem Bz.set2 (h : Bz W g' a0 a1 a2 a3) (hg : g' ≠ g) (_ : True) (u u' : Value) : Bz ((W.setCell ⟨g, 0, none⟩ u).setCell ⟨g, 1, none⟩ u') g' a0 a1 a2 a3 :=
  ⟨(h.blk.far (p := ⟨g, 0, none⟩) hg u).far (p := ⟨g, 1, none⟩) hg u'⟩
theorem BO.far1 (h : BO w B r z) (hg : g < B) (k : Nat) (u : Value) : BO (w.setCell ⟨g, k, none⟩ u) B r z := by
  obtain ⟨v, rfl, ho⟩ := h
  exact ⟨v, rfl, ho.far hg u⟩
theorem BO.far4 (h : BO w B r z) (hg : g < B) (u0 u1 u2 u3 : Value) : BO ((((w.setCell ⟨g, 0, none⟩ u0).setCell ⟨g, 1, none⟩ u1).setCell ⟨g, 2, none⟩ u2).setCell ⟨g, 3, none⟩ u3) B r z :=
  (((h.far1 hg 0 u0).far1 hg 1 u1).far1 hg 2 u2).far1 hg 3 u3
theorem below_st4 (h : Below B w W) (hg : B ≤ g) (u0 u1 u2 u3 : Value) : Below B w ((((W.setCell ⟨g, 0, none⟩ u0).setCell ⟨g, 1, none⟩ u1).setCell ⟨g, 2, none⟩ u2).setCell ⟨g, 3, none⟩ u3) :=
  (((h.setCell (p := ⟨g, 0, none⟩) hg u0).setCell (p := ⟨g, 1, none⟩) hg u1).setCell (p := ⟨g, 2, none⟩) hg u2).setCell (p := ⟨g, 3, none⟩) hg u3
theorem FO.mk2 (h1 : BO w B (.agg #[.int .i64 s1, .slice A1 n1 d1]) p) (h2 : BO w B (.agg #[.int .i64 s2, .slice A2 n2 d2]) q) : FO w B (.agg #[.int .i64 s1, .slice A1 n1 d1, .int .i64 s2, .slice A2 n2 d2]) p q :=
  ⟨s1, A1, n1, d1, s2, A2, n2, d2, rfl, h1, h2⟩
theorem nboxes (h1 : BV w w.heap.size (.agg #[.int .i64 s1, .slice A1 n1 d1]) p) (h2 : BV w w.heap.size (.agg #[.int .i64 s2, .slice A2 n2 d2]) q) :
    ∃ W, W = ((w.alloc (.cells #[.int .i64 s1, .slice A1 n1 d1] 39)).alloc (.cells #[.int .i64 s2, .slice A2 n2 d2] 39)).alloc (.cells #[.int .i64 0, .slice none 0 0, .int .i64 0, .slice none 0 0] 41) ∧ Below w.heap.size w W ∧
      Bx W w.heap.size s1 A1 n1 d1 p ∧ Bx W (w.heap.size + 1) s2 A2 n2 d2 q ∧ Bz W (w.heap.size + 1 + 1) (.int .i64 0) (.slice none 0 0) (.int .i64 0) (.slice none 0 0) := by
  obtain ⟨W, hW, hb, k1, k2, hs⟩ := boxes2 w #[.int .i64 s1, .slice A1 n1 d1] #[.int .i64 s2, .slice A2 n2 d2]
  rw [← hW]
  have hb3 : Below w.heap.size w (W.alloc (.cells #[.int .i64 0, .slice none 0 0, .int .i64 0, .slice none 0 0] 41)) := hb.alloc hb.size _
  have h3 := Blk.new W 41 #[.int .i64 0, .slice none 0 0, .int .i64 0, .slice none 0 0]
  rw [hs] at h3
  exact ⟨_, rfl, hb3, ⟨k1.alloc _, h1.later hb3⟩, ⟨k2.alloc _, h2.later hb3⟩, ⟨h3⟩⟩
end

end Go.Proofs.YtgpmmpajnfbecaaGreat
