/- Boxes of the laws of fractions. Printed by a program (lcommon.py). Walks: the law on Floor. Printed by a program (ffloor.py). -/
import Derived.Test.YtbhdkgieahnojaaGreatDoorXax

namespace Go.Proofs.YtbhdkgieahnojaaGreatDoor
open Go.RowKit

section
variable {W W' w b b' : World} {g B : Nat} {s1 s2 s3 t1 t2 t3 : Int} {l1 l2 l3 k1 k2 k3 : List Int} {A1 A2 A3 B1 B2 B3 : Option Addr} {n1 d1 n2 d2 n3 d3 m1 e1 m2 e2 m3 e3 : Nat}
theorem afb1 (h1 : Ar w s1 l1 A1 n1 d1) (g1 : Ar w t1 k1 B1 m1 e1) :
    ∃ W, W = w.alloc (.cells #[.int .i64 s1, .slice A1 n1 d1, .int .i64 t1, .slice B1 m1 e1] 43) ∧ Below w.heap.size w W ∧ Af W (w.heap.size) s1 l1 A1 n1 d1 t1 k1 B1 m1 e1 := by
  have hb1 : Below w.heap.size w (w.alloc (.cells #[.int .i64 s1, .slice A1 n1 d1, .int .i64 t1, .slice B1 m1 e1] 43)) := (Below.refl _ _).alloc (Nat.le_refl _) _
  have j1 := Blk.new w 43 #[.int .i64 s1, .slice A1 n1 d1, .int .i64 t1, .slice B1 m1 e1]
  exact ⟨_, rfl, hb1, ⟨j1, h1.later hb1, g1.later hb1⟩⟩
theorem afb2 (h1 : Ar w s1 l1 A1 n1 d1) (g1 : Ar w t1 k1 B1 m1 e1) (h2 : Ar w s2 l2 A2 n2 d2) (g2 : Ar w t2 k2 B2 m2 e2) :
    ∃ W, W = (w.alloc (.cells #[.int .i64 s1, .slice A1 n1 d1, .int .i64 t1, .slice B1 m1 e1] 43)).alloc (.cells #[.int .i64 s2, .slice A2 n2 d2, .int .i64 t2, .slice B2 m2 e2] 43) ∧ Below w.heap.size w W ∧ Af W (w.heap.size) s1 l1 A1 n1 d1 t1 k1 B1 m1 e1 ∧ Af W (w.heap.size + 1) s2 l2 A2 n2 d2 t2 k2 B2 m2 e2 := by
  have hb1 : Below w.heap.size w (w.alloc (.cells #[.int .i64 s1, .slice A1 n1 d1, .int .i64 t1, .slice B1 m1 e1] 43)) := (Below.refl _ _).alloc (Nat.le_refl _) _
  have hb2 := hb1.alloc hb1.size (.cells #[.int .i64 s2, .slice A2 n2 d2, .int .i64 t2, .slice B2 m2 e2] 43)
  have j1 := Blk.new w 43 #[.int .i64 s1, .slice A1 n1 d1, .int .i64 t1, .slice B1 m1 e1]
  have j2 := Blk.new (w.alloc (.cells #[.int .i64 s1, .slice A1 n1 d1, .int .i64 t1, .slice B1 m1 e1] 43)) 43 #[.int .i64 s2, .slice A2 n2 d2, .int .i64 t2, .slice B2 m2 e2]
  simp only [World.size_alloc] at j2
  exact ⟨_, rfl, hb2, ⟨(j1.alloc _), h1.later hb2, g1.later hb2⟩, ⟨j2, h2.later hb2, g2.later hb2⟩⟩
theorem afb3 (h1 : Ar w s1 l1 A1 n1 d1) (g1 : Ar w t1 k1 B1 m1 e1) (h2 : Ar w s2 l2 A2 n2 d2) (g2 : Ar w t2 k2 B2 m2 e2) (h3 : Ar w s3 l3 A3 n3 d3) (g3 : Ar w t3 k3 B3 m3 e3) :
    ∃ W, W = ((w.alloc (.cells #[.int .i64 s1, .slice A1 n1 d1, .int .i64 t1, .slice B1 m1 e1] 43)).alloc (.cells #[.int .i64 s2, .slice A2 n2 d2, .int .i64 t2, .slice B2 m2 e2] 43)).alloc (.cells #[.int .i64 s3, .slice A3 n3 d3, .int .i64 t3, .slice B3 m3 e3] 43) ∧ Below w.heap.size w W ∧ Af W (w.heap.size) s1 l1 A1 n1 d1 t1 k1 B1 m1 e1 ∧ Af W (w.heap.size + 1) s2 l2 A2 n2 d2 t2 k2 B2 m2 e2 ∧ Af W (w.heap.size + 1 + 1) s3 l3 A3 n3 d3 t3 k3 B3 m3 e3 := by
  have hb1 : Below w.heap.size w (w.alloc (.cells #[.int .i64 s1, .slice A1 n1 d1, .int .i64 t1, .slice B1 m1 e1] 43)) := (Below.refl _ _).alloc (Nat.le_refl _) _
  have hb2 := hb1.alloc hb1.size (.cells #[.int .i64 s2, .slice A2 n2 d2, .int .i64 t2, .slice B2 m2 e2] 43)
  have hb3 := hb2.alloc hb2.size (.cells #[.int .i64 s3, .slice A3 n3 d3, .int .i64 t3, .slice B3 m3 e3] 43)
  have j1 := Blk.new w 43 #[.int .i64 s1, .slice A1 n1 d1, .int .i64 t1, .slice B1 m1 e1]
  have j2 := Blk.new (w.alloc (.cells #[.int .i64 s1, .slice A1 n1 d1, .int .i64 t1, .slice B1 m1 e1] 43)) 43 #[.int .i64 s2, .slice A2 n2 d2, .int .i64 t2, .slice B2 m2 e2]
  have j3 := Blk.new ((w.alloc (.cells #[.int .i64 s1, .slice A1 n1 d1, .int .i64 t1, .slice B1 m1 e1] 43)).alloc (.cells #[.int .i64 s2, .slice A2 n2 d2, .int .i64 t2, .slice B2 m2 e2] 43)) 43 #[.int .i64 s3, .slice A3 n3 d3, .int .i64 t3, .slice B3 m3 e3]
  simp only [World.size_alloc] at j2 j3
  exact ⟨_, rfl, hb3, ⟨((j1.alloc _).alloc _), h1.later hb3, g1.later hb3⟩, ⟨(j2.alloc _), h2.later hb3, g2.later hb3⟩, ⟨j3, h3.later hb3, g3.later hb3⟩⟩
theorem blk_run4 {a0 a1 a2 a3 : Value} (h : Below (b.alloc (.cells #[a0, a1, a2, a3] 43)).heap.size (b.alloc (.cells #[a0, a1, a2, a3] 43)) b') : Blk b' b.heap.size 43 #[a0, a1, a2, a3] := (Blk.new b 43 _).below h (by simp)
variable {p q : Int}
theorem fbox_new (h : FO b B (.agg #[.int .i64 s1, .slice A1 n1 d1, .int .i64 s2, .slice A2 n2 d2]) p q) : Bf 43 (b.alloc (.cells #[.int .i64 s1, .slice A1 n1 d1, .int .i64 s2, .slice A2 n2 d2] 43)) b.heap.size s1 A1 n1 d1 s2 A2 n2 d2 p q := by
  obtain ⟨W, hW, _, k⟩ := fbox h
  rw [← hW]
  exact k
theorem fbox_st {u0 u1 u2 u3 : Value} (hk : Blk b g 43 #[u0, u1, u2, u3]) (h : FO b B (.agg #[.int .i64 s1, .slice A1 n1 d1, .int .i64 s2, .slice A2 n2 d2]) p q) (hg : g < B) :
    Bf 43 ((((b.setCell ⟨g, 0, none⟩ (.int .i64 s1)).setCell ⟨g, 1, none⟩ (.slice A1 n1 d1)).setCell ⟨g, 2, none⟩ (.int .i64 s2)).setCell ⟨g, 3, none⟩ (.slice A2 n2 d2)) g s1 A1 n1 d1 s2 A2 n2 d2 p q := by
  obtain ⟨s1', A1', n1', c1', s2', A2', n2', c2', e, h1, h2⟩ := h
  injection e with e
  have e0 := congrArg (fun (a : Array Value) => a[0]?) e
  have e1 := congrArg (fun (a : Array Value) => a[1]?) e
  have e2 := congrArg (fun (a : Array Value) => a[2]?) e
  have e3 := congrArg (fun (a : Array Value) => a[3]?) e
  simp at e0 e1 e2 e3
  obtain ⟨rfl, rfl, rfl⟩ := e1
  obtain ⟨rfl, rfl, rfl⟩ := e3
  subst e0 e2
  exact Bf.put hk h1.bv h2.bv (h1.nb hg) (h2.nb hg)
theorem rb_int {z : Int} (h : ab z < pw 60) : Rb (z : Rat) 60 60 := ⟨h, lt60 (show ab (1 : Int) < 1208925819614629174706176 by decide)⟩
theorem divInt_1 (z : Int) : Rat.divInt z 1 = (z : Rat) := by
  apply Rat.ext <;> simp [Rat.num_divInt, Rat.den_divInt]
/-- New of an integer and 1. -/
theorem rnew1 {z : Int} {r : Value} (w : World) (h1 : BV w w.heap.size (.agg #[.int .i64 s1, .slice A1 n1 d1]) z) (h2 : BV w w.heap.size r 1) (hz : ab z < pw 60) :
    Calls Tryz.prog 52 #[.agg #[.int .i64 s1, .slice A1 n1 d1], r] w (RetF (z : Rat) w) := by
  obtain ⟨A, c, rfl, x1, x2, x3⟩ := h2
  have := rnew w h1 ⟨A, c, rfl, x1, x2, x3⟩ hz (lt60 (by decide)) (by decide)
  rw [divInt_1] at this
  exact this
end

end Go.Proofs.YtbhdkgieahnojaaGreatDoor

namespace Go.Proofs.YtbhdkgieahnojaaGreatDoor
open Go.RowKit

set_option maxRecDepth 100000 in
set_option maxHeartbeats 8000000 in
theorem floor_law (s1 t1 : Int) (l1 k1 : List Int) (A1 B1 : Option Addr) (n1 d1 m1 e1 : Nat) (N : Int) (hN : isI N) (w : World) (ht : TB w) (h1 : Ar w s1 l1 A1 n1 d1) (g1 : Ar w t1 k1 B1 m1 e1) :
    Calls Tryz.prog 8 #[.agg #[.int .i64 s1, .slice A1 n1 d1, .int .i64 t1, .slice B1 m1 e1], .int .i64 N] w fun e w' => e = .returned (.bool true) ∧ Below w.heap.size w w' := by
  have HT := Lib.hid ht; clear ht
  have HN := Lib.hid hN; clear hN
  go_enter Tryz.func8, Tryz.ntmps8
  go_wp2_with fail
  obtain ⟨W0, hW, hbx, q1⟩ := afb1 h1 g1
  rw [← hW]
  clear hW h1 g1
  have hT := hbx
  (with_reducible refine (fsmall_any _ (HT.out.below hT)).mono ?_)
  rintro e v0 ⟨rfl, hb⟩
  have hT := hT.trans (hb.mono hT.size)
  have q1 := q1.below hb
  have a0 := q1.c0
  have a1 := q1.c1
  have a2 := q1.c2
  have a3 := q1.c3
  go_wp2_with fail
  clear a0 a1 a2 a3
  by_cases hcf1 : n1 ≤ 30 ∧ m1 ≤ 30
  rotate_left
  · refine (ffew_any s1 t1 30 A1 B1 n1 d1 m1 e1 _ false (decide_eq_false (by omega))).mono ?_
    rintro e v ⟨rfl, hb⟩
    go_wp2_with fail
    go_ret
    exact ⟨rfl, hT.trans (hb.mono hT.size)⟩
  refine (ffew_any s1 t1 30 A1 B1 n1 d1 m1 e1 _ true (decide_eq_true (by omega))).mono ?_
  rintro e vf1 ⟨rfl, hb⟩
  have hT := hT.trans (hb.mono hT.size)
  have q1 := q1.below hb
  have HCf1 := Lib.hid hcf1; clear hcf1
  have a0 := q1.c0
  have a1 := q1.c1
  have a2 := q1.c2
  have a3 := q1.c3
  go_wp2_with fail
  clear a0 a1 a2 a3
  by_cases hcr1 : RF s1 l1 t1 k1
  rotate_left
  · refine (fright_any _ q1.a q1.b false (by simp [hcr1])).mono ?_
    rintro e v ⟨rfl, hb⟩
    go_wp2_with fail
    go_ret
    exact ⟨rfl, hT.trans (hb.mono hT.size)⟩
  refine (fright_any _ q1.a q1.b true (by simp [hcr1])).mono ?_
  rintro e vr1 ⟨rfl, hb⟩
  have hT := hT.trans (hb.mono hT.size)
  have q1 := q1.below hb
  have HCr1 := Lib.hid hcr1; clear hcr1
  obtain ⟨x, ka, hsa, _, hra⟩ := q1.bf HCr1.out
  have hra := hra 30 HCf1.out
  have HRa := Lib.hid hra; clear hra
  have HSa := Lib.hid hsa; clear hsa
  clear q1 HCr1 HCf1
  have za0 := ka.c0
  have za1 := ka.c1
  have za2 := ka.c2
  have za3 := ka.c3
  go_wp2_with fail
  clear za0 za1 za2 za3
  (with_reducible refine (rfloor _ ka.fv (HRa.out.mono (by decide) (by decide))).mono ?_)
  rintro e u1 ⟨rv, rfl, hrv, hb9⟩
  have hT := hT.trans (hb9.mono hT.size)
  have ka := ka.below hb9
  obtain ⟨sv, Av, nv, cv, rfl⟩ := hrv.form
  have hkv := ab_floor HRa.out.n
  obtain ⟨z, hz⟩ : ∃ z, x.floor = z := ⟨_, rfl⟩
  rw [hz] at hrv hkv
  have HZ := Lib.hid hz; clear hz
  have HKv := Lib.hid hkv; clear hkv
  have hkw : ab (z + 1) < pw 32 := ab_add_lt HKv.out (show ab (1 : Int) < pw 1 by decide) (by decide) (by decide)
  have HKw := Lib.hid hkw; clear hkw
  obtain ⟨Wv, hW, hbx, kv⟩ := box1 hrv
  go_wp2_with fail
  rw [← hW]
  clear hW
  have hT := hT.trans (hbx.mono hT.size)
  have ka := ka.below hbx
  have e0 : ∀ W' : World, Below Wv.heap.size Wv W' → W'.cell? ⟨u1.heap.size, 0, none⟩ = some (.int .i64 sv) ∧ W'.cell? ⟨u1.heap.size, 1, none⟩ = some (.slice Av nv cv) ∧ Below Wv.heap.size Wv W' := fun W' hW =>
    ⟨(kv.below hW).c0, (kv.below hW).c1, hW⟩
  have E0 := Lib.hid e0; clear e0
  have hB00 : Below Wv.heap.size Wv Wv.drew := (Below.refl _ _).drew
  have hml := fun (w' : World) (hb : Below Wv.heap.size Wv w') r (h : BV w' w'.heap.size r 1) => add_any z 1 _ r w' (kv.below hb).bv h (up HKv.out (by decide)) (lt60 (by decide))
  unfold ResP at hml
  have hfr := fits (up HKw.out (by decide))
  rw [hfr.1, hfr.2] at hml
  clear hfr
  have HML := Lib.hid hml; clear hml
  have hTs := hT.size
  go_upto_region 5 with fail
  go_cut [7, 8] from 28 to 33 (fun p e wx => ∃ (g : Nat) (s : Int) (A : Option Addr) (n c : Nat), p = .pointer (some ⟨g, 0, none⟩) ∧ e = .int .i64 0 ∧ Bx wx g s A n c (z + 1) ∧ Below Wv.heap.size Wv wx)
  case first =>
    go_region_held3 (fun W' => W'.cell? ⟨u1.heap.size, 0, none⟩ = some (.int .i64 sv) ∧ W'.cell? ⟨u1.heap.size, 1, none⟩ = some (.slice Av nv cv) ∧ Below Wv.heap.size Wv W')
      (first | exact E0.out _ (below_st hB5 hge _ _) | exact E0.out _ (below_new hB5 _) | exact E0.out _ (below_new hB4 _) | exact E0.out _ (below_new hB00 _) | exact E0.out _ (by assumption) | exact E0.out _ ⟨rfl, rfl, rfl, Nat.le_refl _, fun _ _ => rfl⟩)
      (first
        | (go_at_call 11; have _h := hB4; (first | refine (HML.out _ hB4 _ hq1.bv).mono ?_ | refine (HML.out _ (below_new hB4 _) _ (hq1.bv.new _)).mono ?_); rintro e u3 ⟨rw, rfl, hrw, hb5⟩; have hB5 : Below Wv.heap.size Wv u3 := (by first | exact hB4.trans (hb5.mono hB4.size) | exact (below_new hB4 _).trans (hb5.mono (below_new hB4 _).size)); obtain ⟨sw, Aw, nw, cw, rfl⟩ := hrw.form; (try (have hk5 := blk_run hb5; have hge := hB4.size; have hlt : u2.heap.size < (u2.alloc (.cells #[.int .i64 0, .slice none 0 0] 24)).heap.size := (by simp); have z0 := hk5.cell 0; have z1 := hk5.cell 1; have y0 := hk5.frozen 0; have y1 := hk5.frozen 1)); (try (have hk5 := hk4.below hb5 hk4.lt; have hge := Nat.le_refl Wv.heap.size; have hlt := hk4.lt; have z0 := hk5.cell 0; have z1 := hk5.cell 1; have y0 := hk5.frozen 0; have y1 := hk5.frozen 1)))
        | (go_at_call 35; (first | refine (of_any 1 _ (by omega) (by omega)).mono ?_); rintro e u2 ⟨r1, rfl, hq1, hb4⟩; have hB4 : Below Wv.heap.size Wv u2 := (by first | exact ⟨hb4.os, hb4.tape, hb4.output, hb4.size, hb4.block⟩ | exact (below_new hB00 _).trans (hb4.mono (below_new hB00 _).size)); (try (have hk4 : Blk u2 Wv.heap.size 24 #[.int .i64 0, .slice none 0 0] := blk_run (b := Wv.drew) hb4))))
    all_goals
      go_wp2_with fail
      go_meet
      first
        | exact ⟨_, _, _, _, _, rfl, rfl, box_new hrw, below_new hB5 _⟩
        | exact ⟨_, _, _, _, _, rfl, rfl, box_st hk5 hrw hlt, below_st hB5 hge _ _⟩
  obtain ⟨gw, sw, Aw, nw, cw, rfl, rfl, kw, hb9⟩ := hcut
  clear E0 hB00 HML hTs
  have hT := hT.trans (hb9.mono hT.size)
  have ka := ka.below hb9
  have kv := kv.below hb9
  have e0 : ∀ W' : World, Below wc.heap.size wc W' → W'.cell? ⟨u1.heap.size, 0, none⟩ = some (.int .i64 sv) ∧ W'.cell? ⟨u1.heap.size, 1, none⟩ = some (.slice Av nv cv) ∧ Below wc.heap.size wc W' := fun W' hW =>
    ⟨(kv.below hW).c0, (kv.below hW).c1, hW⟩
  have E0 := Lib.hid e0; clear e0
  have hB00 : Below wc.heap.size wc wc.drew := (Below.refl _ _).drew
  have hml := fun (w' : World) (hb : Below wc.heap.size wc w') r (h : BV w' w'.heap.size r 1) => rnew1 w' (kv.below hb).bv h (up HKv.out (by decide))
  unfold RetF at hml
  have HML := Lib.hid hml; clear hml
  have hTs := hT.size
  go_upto_region 6 with fail
  go_cut [9, 10] from 34 to 39 (fun p e wx => ∃ (g : Nat) (s : Int) (A : Option Addr) (n c : Nat) (s' : Int) (A' : Option Addr) (n' c' : Nat), p = .pointer (some ⟨g, 0, none⟩) ∧ e = .int .i64 0 ∧ Bf 43 wx g s A n c s' A' n' c' (z : Rat).num (z : Rat).den ∧ Below wc.heap.size wc wx)
  case first =>
    go_region_held3 (fun W' => W'.cell? ⟨u1.heap.size, 0, none⟩ = some (.int .i64 sv) ∧ W'.cell? ⟨u1.heap.size, 1, none⟩ = some (.slice Av nv cv) ∧ Below wc.heap.size wc W')
      (first | exact E0.out _ (below_st4 hB5 hge _ _ _ _) | exact E0.out _ (below_new hB5 _) | exact E0.out _ (below_new hB4 _) | exact E0.out _ (below_new hB00 _) | exact E0.out _ (by assumption) | exact E0.out _ ⟨rfl, rfl, rfl, Nat.le_refl _, fun _ _ => rfl⟩)
      (first
        | (go_at_call 52; have _h := hB4; (first | refine (HML.out _ hB4 _ hq1.bv).mono ?_ | refine (HML.out _ (below_new hB4 _) _ (hq1.bv.new _)).mono ?_); rintro e u5 ⟨rX, rfl, hrX, hb5⟩; have hB5 : Below wc.heap.size wc u5 := (by first | exact hB4.trans (hb5.mono hB4.size) | exact (below_new hB4 _).trans (hb5.mono (below_new hB4 _).size)); obtain ⟨sX, AX, nX, cX, yX, BX, mX, eX, rfl⟩ := hrX.form; (try (have hk5 := blk_run4 hb5; have hge := hB4.size; have hlt : u4.heap.size < (u4.alloc (.cells #[.int .i64 0, .slice none 0 0, .int .i64 0, .slice none 0 0] 43)).heap.size := (by simp); have z0 := hk5.cell 0; have z1 := hk5.cell 1; have z2 := hk5.cell 2; have z3 := hk5.cell 3; have y0 := hk5.frozen 0; have y1 := hk5.frozen 1; have y2 := hk5.frozen 2; have y3 := hk5.frozen 3)); (try (have hk5 := hk4.below hb5 hk4.lt; have hge := Nat.le_refl wc.heap.size; have hlt := hk4.lt; have z0 := hk5.cell 0; have z1 := hk5.cell 1; have z2 := hk5.cell 2; have z3 := hk5.cell 3; have y0 := hk5.frozen 0; have y1 := hk5.frozen 1; have y2 := hk5.frozen 2; have y3 := hk5.frozen 3)))
        | (go_at_call 35; (first | refine (of_any 1 _ (by omega) (by omega)).mono ?_); rintro e u4 ⟨r1, rfl, hq1, hb4⟩; have hB4 : Below wc.heap.size wc u4 := (by first | exact ⟨hb4.os, hb4.tape, hb4.output, hb4.size, hb4.block⟩ | exact (below_new hB00 _).trans (hb4.mono (below_new hB00 _).size)); (try (have hk4 : Blk u4 wc.heap.size 43 #[.int .i64 0, .slice none 0 0, .int .i64 0, .slice none 0 0] := blk_run4 (b := wc.drew) hb4))))
    all_goals
      go_wp2_with fail
      go_meet
      first
        | exact ⟨_, _, _, _, _, _, _, _, _, rfl, rfl, fbox_new hrX, below_new hB5 _⟩
        | exact ⟨_, _, _, _, _, _, _, _, _, rfl, rfl, fbox_st hk5 hrX hlt, below_st4 hB5 hge _ _ _ _⟩
  obtain ⟨gX, sX, AX, nX, cX, yX, BX, mX, eX, rfl, rfl, kX, hb9⟩ := hcut
  clear E0 hB00 HML hTs
  have hT := hT.trans (hb9.mono hT.size)
  have ka := ka.below hb9
  have kv := kv.below hb9
  have kw := kw.below hb9
  have e0 : ∀ W' : World, Below wc.heap.size wc W' → W'.cell? ⟨gw, 0, none⟩ = some (.int .i64 sw) ∧ W'.cell? ⟨gw, 1, none⟩ = some (.slice Aw nw cw) ∧ Below wc.heap.size wc W' := fun W' hW =>
    ⟨(kw.below hW).c0, (kw.below hW).c1, hW⟩
  have E0 := Lib.hid e0; clear e0
  have hB00 : Below wc.heap.size wc wc.drew := (Below.refl _ _).drew
  have hml := fun (w' : World) (hb : Below wc.heap.size wc w') r (h : BV w' w'.heap.size r 1) => rnew1 w' (kw.below hb).bv h (up HKw.out (by decide))
  unfold RetF at hml
  have HML := Lib.hid hml; clear hml
  have hTs := hT.size
  go_upto_region 7 with fail
  go_cut [11, 12] from 40 to 45 (fun p e wx => ∃ (g : Nat) (s : Int) (A : Option Addr) (n c : Nat) (s' : Int) (A' : Option Addr) (n' c' : Nat), p = .pointer (some ⟨g, 0, none⟩) ∧ e = .int .i64 0 ∧ Bf 43 wx g s A n c s' A' n' c' ((z + 1 : Int) : Rat).num ((z + 1 : Int) : Rat).den ∧ Below wc.heap.size wc wx)
  case first =>
    go_region_held3 (fun W' => W'.cell? ⟨gw, 0, none⟩ = some (.int .i64 sw) ∧ W'.cell? ⟨gw, 1, none⟩ = some (.slice Aw nw cw) ∧ Below wc.heap.size wc W')
      (first | exact E0.out _ (below_st4 hB5 hge _ _ _ _) | exact E0.out _ (below_new hB5 _) | exact E0.out _ (below_new hB4 _) | exact E0.out _ (below_new hB00 _) | exact E0.out _ (by assumption) | exact E0.out _ ⟨rfl, rfl, rfl, Nat.le_refl _, fun _ _ => rfl⟩)
      (first
        | (go_at_call 52; have _h := hB4; (first | refine (HML.out _ hB4 _ hq1.bv).mono ?_ | refine (HML.out _ (below_new hB4 _) _ (hq1.bv.new _)).mono ?_); rintro e u7 ⟨rY, rfl, hrY, hb5⟩; have hB5 : Below wc.heap.size wc u7 := (by first | exact hB4.trans (hb5.mono hB4.size) | exact (below_new hB4 _).trans (hb5.mono (below_new hB4 _).size)); obtain ⟨sY, AY, nY, cY, yY, BY, mY, eY, rfl⟩ := hrY.form; (try (have hk5 := blk_run4 hb5; have hge := hB4.size; have hlt : u6.heap.size < (u6.alloc (.cells #[.int .i64 0, .slice none 0 0, .int .i64 0, .slice none 0 0] 43)).heap.size := (by simp); have z0 := hk5.cell 0; have z1 := hk5.cell 1; have z2 := hk5.cell 2; have z3 := hk5.cell 3; have y0 := hk5.frozen 0; have y1 := hk5.frozen 1; have y2 := hk5.frozen 2; have y3 := hk5.frozen 3)); (try (have hk5 := hk4.below hb5 hk4.lt; have hge := Nat.le_refl wc.heap.size; have hlt := hk4.lt; have z0 := hk5.cell 0; have z1 := hk5.cell 1; have z2 := hk5.cell 2; have z3 := hk5.cell 3; have y0 := hk5.frozen 0; have y1 := hk5.frozen 1; have y2 := hk5.frozen 2; have y3 := hk5.frozen 3)))
        | (go_at_call 35; (first | refine (of_any 1 _ (by omega) (by omega)).mono ?_); rintro e u6 ⟨r1, rfl, hq1, hb4⟩; have hB4 : Below wc.heap.size wc u6 := (by first | exact ⟨hb4.os, hb4.tape, hb4.output, hb4.size, hb4.block⟩ | exact (below_new hB00 _).trans (hb4.mono (below_new hB00 _).size)); (try (have hk4 : Blk u6 wc.heap.size 43 #[.int .i64 0, .slice none 0 0, .int .i64 0, .slice none 0 0] := blk_run4 (b := wc.drew) hb4))))
    all_goals
      go_wp2_with fail
      go_meet
      first
        | exact ⟨_, _, _, _, _, _, _, _, _, rfl, rfl, fbox_new hrY, below_new hB5 _⟩
        | exact ⟨_, _, _, _, _, _, _, _, _, rfl, rfl, fbox_st hk5 hrY hlt, below_st4 hB5 hge _ _ _ _⟩
  obtain ⟨gY, sY, AY, nY, cY, yY, BY, mY, eY, rfl, rfl, kY, hb9⟩ := hcut
  clear E0 hB00 HML hTs
  have hT := hT.trans (hb9.mono hT.size)
  have ka := ka.below hb9
  have kv := kv.below hb9
  have kw := kw.below hb9
  have kX := kX.below hb9
  have hX : Rb (z : Rat) 60 60 := rb_int (up HKv.out (by decide))
  have hY : Rb ((z + 1 : Int) : Rat) 60 60 := rb_int (up HKw.out (by decide))
  have HX := Lib.hid hX; clear hX
  have HY := Lib.hid hY; clear hY
  have c1 : cmpR (z : Rat) x ≤ 0 := by
    have := Rat.floor_le x
    rw [HZ.out] at this
    rcases cmpR_cases (z : Rat) x with ⟨_, h⟩ | ⟨_, h⟩ | ⟨h, _⟩
    · omega
    · omega
    · grind
  have c2 : cmpR ((z + 1 : Int) : Rat) x = 1 := by
    have := Rat.lt_floor_add_one x
    rw [HZ.out] at this
    exact cmpR_gt this
  obtain ⟨C1, hC1⟩ : ∃ C, cmpR (z : Rat) x = C := ⟨_, rfl⟩
  rw [hC1] at c1
  have d1 : decide (0 < C1) = false := decide_eq_false (by omega)
  have HC1 := Lib.hid hC1; clear hC1 c1
  have HC2 := Lib.hid c2; clear c2
  have zX0 := kX.c0
  have zX1 := kX.c1
  have zX2 := kX.c2
  have zX3 := kX.c3
  have za0 := ka.c0
  have za1 := ka.c1
  have za2 := ka.c2
  have za3 := ka.c3
  go_wp2_with fail
  clear zX0 zX1 zX2 zX3 za0 za1 za2 za3
  (with_reducible refine (rcompare _ kX.fv ka.fv HX.out (HRa.out.mono (by decide) (by decide))).mono ?_)
  rintro e u8 ⟨rfl, hb9⟩
  have hT := hT.trans (hb9.mono hT.size)
  have ka := ka.below hb9
  have kv := kv.below hb9
  have kw := kw.below hb9
  have kX := kX.below hb9
  have kY := kY.below hb9
  rw [HC1.out]
  have zY0 := kY.c0
  have zY1 := kY.c1
  have zY2 := kY.c2
  have zY3 := kY.c3
  have za0 := ka.c0
  have za1 := ka.c1
  have za2 := ka.c2
  have za3 := ka.c3
  go_wp2_with fail
  clear zY0 zY1 zY2 zY3 za0 za1 za2 za3
  (with_reducible refine (rcompare _ kY.fv ka.fv HY.out (HRa.out.mono (by decide) (by decide))).mono ?_)
  rintro e u9 ⟨rfl, hb9⟩
  have hT := hT.trans (hb9.mono hT.size)
  have ka := ka.below hb9
  have kv := kv.below hb9
  have kw := kw.below hb9
  have kX := kX.below hb9
  have kY := kY.below hb9
  rw [HC2.out]
  clear d1
  clear kY
  go_wp2_with fail
  have e0 : ∀ W' : World, Below u9.heap.size u9 W' → W'.cell? ⟨w.heap.size, 0, none⟩ = some (.int .i64 s1) ∧ W'.cell? ⟨w.heap.size, 1, none⟩ = some (.slice A1 n1 d1) ∧ W'.cell? ⟨w.heap.size, 2, none⟩ = some (.int .i64 t1) ∧ W'.cell? ⟨w.heap.size, 3, none⟩ = some (.slice B1 m1 e1) ∧ Below u9.heap.size u9 W' := fun W' hW =>
    ⟨(ka.below hW).c0, (ka.below hW).c1, (ka.below hW).c2, (ka.below hW).c3, hW⟩
  have E0 := Lib.hid e0; clear e0
  have hB00 : Below u9.heap.size u9 u9.drew := (Below.refl _ _).drew
  have hml := fun (w' : World) (hb : Below u9.heap.size u9 w') s A n d (h : BV w' w'.heap.size (.agg #[.int .i64 s, .slice A n d]) (-x.num)) => rfloor (x := -x) w' ⟨by rw [Rat.neg_num]; exact h, (ka.below hb).fv.b⟩ ((HRa.out.neg).mono (by decide) (by decide))
  have hng := fun (w' : World) (hb : Below u9.heap.size u9 w') => neg_any x.num _ w' (ka.below hb).fv.a (up HRa.out.n (by decide))
  have HNG := Lib.hid hng; clear hng
  have HML := Lib.hid hml; clear hml
  have hTs := hT.size
  go_upto_region 10 with fail
  go_cut [13] from 68 to 74 (fun p wx => ∃ (g : Nat) (s : Int) (A : Option Addr) (n c : Nat), p = .pointer (some ⟨g, 0, none⟩) ∧ Bx wx g s A n c (-x).floor ∧ Below u9.heap.size u9 wx)
  case first =>
    go_region_held3 (fun W' => W'.cell? ⟨w.heap.size, 0, none⟩ = some (.int .i64 s1) ∧ W'.cell? ⟨w.heap.size, 1, none⟩ = some (.slice A1 n1 d1) ∧ W'.cell? ⟨w.heap.size, 2, none⟩ = some (.int .i64 t1) ∧ W'.cell? ⟨w.heap.size, 3, none⟩ = some (.slice B1 m1 e1) ∧ Below u9.heap.size u9 W')
      (first | exact E0.out _ (below_st hB5 hge _ _) | exact E0.out _ (below_new hB5 _) | exact E0.out _ (below_new hB4 _) | exact E0.out _ (below_new hB00 _) | exact E0.out _ (by assumption) | exact E0.out _ ⟨rfl, rfl, rfl, Nat.le_refl _, fun _ _ => rfl⟩)
      (first
        | (go_at_call 61; have _h := hB4; (first | refine (HML.out _ hB4 _ _ _ _ hq1.bv).mono ?_ | refine (HML.out _ (below_new hB4 _) _ _ _ _ (hq1.bv.new _)).mono ?_); rintro e u11 ⟨rc, rfl, hrc, hb5⟩; have hB5 : Below u9.heap.size u9 u11 := (by first | exact hB4.trans (hb5.mono hB4.size) | exact (below_new hB4 _).trans (hb5.mono (below_new hB4 _).size)); obtain ⟨sc, Ac, nc, cc, rfl⟩ := hrc.form; (try (have hk5 := blk_run hb5; have hge := hB4.size; have hlt : u10.heap.size < (u10.alloc (.cells #[.int .i64 0, .slice none 0 0] 24)).heap.size := (by simp); have z0 := hk5.cell 0; have z1 := hk5.cell 1; have y0 := hk5.frozen 0; have y1 := hk5.frozen 1)); (try (have hk5 := hk4.below hb5 hk4.lt; have hge := Nat.le_refl u9.heap.size; have hlt := hk4.lt; have z0 := hk5.cell 0; have z1 := hk5.cell 1; have y0 := hk5.frozen 0; have y1 := hk5.frozen 1)))
        | (go_at_call 33; (first | refine (HNG.out _ hB00).mono ?_ | refine (HNG.out _ (below_new hB00 _)).mono ?_); rintro e u10 ⟨r1, rfl, hq1, hb4⟩; have hB4 : Below u9.heap.size u9 u10 := (by first | exact ⟨hb4.os, hb4.tape, hb4.output, hb4.size, hb4.block⟩ | exact (below_new hB00 _).trans (hb4.mono (below_new hB00 _).size)); obtain ⟨sh, Ah, nh, ch, rfl⟩ := hq1.form; (try (have hk4 : Blk u10 u9.heap.size 24 #[.int .i64 0, .slice none 0 0] := blk_run (b := u9.drew) hb4))))
    all_goals
      go_wp2_with fail
      go_meet
      first
        | exact ⟨_, _, _, _, _, rfl, box_new hrc, below_new hB5 _⟩
        | exact ⟨_, _, _, _, _, rfl, box_st hk5 hrc hlt, below_st hB5 hge _ _⟩
  obtain ⟨gc, sc, Ac, nc, cc, rfl, kc, hb9⟩ := hcut
  clear E0 hB00 HML hTs
  have hT := hT.trans (hb9.mono hT.size)
  have ka := ka.below hb9
  have kv := kv.below hb9
  have kw := kw.below hb9
  have kX := kX.below hb9
  have zX0 := kX.c0
  have zX1 := kX.c1
  have zX2 := kX.c2
  have zX3 := kX.c3
  have za0 := ka.c0
  have za1 := ka.c1
  have za2 := ka.c2
  have za3 := ka.c3
  go_wp2_with fail
  clear zX0 zX1 zX2 zX3 za0 za1 za2 za3
  obtain ⟨bw, hbw⟩ : ∃ b, decide ((z : Rat) = x) = b := ⟨_, rfl⟩
  have HBW := Lib.hid hbw; clear hbw
  (with_reducible refine (rsame _ kX.fv ka.fv bw HBW.out).mono ?_)
  rintro e u12 ⟨rfl, hb9⟩
  have hT := hT.trans (hb9.mono hT.size)
  have ka := ka.below hb9
  have kv := kv.below hb9
  have kw := kw.below hb9
  have kX := kX.below hb9
  have kc := kc.below hb9
  have zw0 := kw.c0
  have zw1 := kw.c1
  go_wp2_with fail
  clear zw0 zw1
  (with_reducible refine (neg_any (z + 1) _ _ kw.bv (up HKw.out (by decide))).mono ?_)
  rintro e u13 ⟨rp, rfl, hrp, hb9⟩
  have hT := hT.trans (hb9.mono hT.size)
  have ka := ka.below hb9
  have kv := kv.below hb9
  have kw := kw.below hb9
  have kX := kX.below hb9
  have kc := kc.below hb9
  obtain ⟨sp, Ap, np, cp, rfl⟩ := hrp.form
  clear kX
  rcases bw with _ | _
  · have hv : x ≠ (x.floor : Rat) := by
      intro h
      have h1 := HBW.out
      rw [decide_eq_false_iff_not, ← HZ.out] at h1
      exact h1 h.symm
    have hfl := floor_neg_not hv
    rw [HZ.out] at hfl
    have HFL := Lib.hid hfl; clear hfl hv
    obtain ⟨Wp, hW, hbx, kp⟩ := box1 hrp
    have kcz := kc.below hbx
    have zc0 := kcz.c0
    have zc1 := kcz.c1
    rw [hW] at zc0 zc1
    go_wp2_with fail
    clear zc0 zc1
    clear kcz
    rw [← hW]
    clear hW
    have hT := hT.trans (hbx.mono hT.size)
    have ka := ka.below hbx
    have kv := kv.below hbx
    have kw := kw.below hbx
    have kc := kc.below hbx
    (with_reducible refine (sameBig_any _ _ _ _ _ kc.bv kp.bv).mono ?_)
    rintro e u14 ⟨rfl, hb9⟩
    have hT := hT.trans (hb9.mono hT.size)
    have ka := ka.below hb9
    have kv := kv.below hb9
    have kw := kw.below hb9
    have kc := kc.below hb9
    have kp := kp.below hb9
    rw [decide_eq_true HFL.out]
    go_wp2_with fail
    (with_reducible refine (rlof N 1 _ HN.out (by decide) (by decide)).mono ?_)
    rintro e u15 ⟨ro, rfl, hro, hb9⟩
    have hT := hT.trans (hb9.mono hT.size)
    have ka := ka.below hb9
    have kv := kv.below hb9
    have kw := kw.below hb9
    have kc := kc.below hb9
    have kp := kp.below hb9
    rw [divInt_1] at hro
    obtain ⟨so, Ao, no, co, yo, Bo, mo, eo, rfl⟩ := hro.form
    go_wp2_with fail
    (with_reducible refine (rfloor _ hro.fv (rb_int HN.out.lt)).mono ?_)
    rintro e u16 ⟨rl, rfl, hrl, hb9⟩
    have hT := hT.trans (hb9.mono hT.size)
    have ka := ka.below hb9
    have kv := kv.below hb9
    have kw := kw.below hb9
    have kc := kc.below hb9
    have kp := kp.below hb9
    rw [Rat.floor_intCast] at hrl
    obtain ⟨sl, Al, nl, cl, rfl⟩ := hrl.form
    go_wp2_with fail
    (with_reducible refine (of_any N _ HN.out.lo HN.out.hi).mono ?_)
    rintro e u17 ⟨rk, rfl, hrk, hb9⟩
    have hT := hT.trans (hb9.mono hT.size)
    have ka := ka.below hb9
    have kv := kv.below hb9
    have kw := kw.below hb9
    have kc := kc.below hb9
    have kp := kp.below hb9
    have hrl2 := hrl.below hb9
    obtain ⟨sk, Ak, nk, ck, rfl⟩ := hrk.form
    go_wp2_with fail
    (with_reducible refine (sameBig_any _ _ _ _ _ hrl2.bv hrk.bv).mono ?_)
    rintro e u18 ⟨rfl, hb9⟩
    have hT := hT.trans (hb9.mono hT.size)
    have ka := ka.below hb9
    have kv := kv.below hb9
    have kw := kw.below hb9
    have kc := kc.below hb9
    have kp := kp.below hb9
    rw [decide_eq_true rfl]
    go_wp2_with fail
    go_ret
    exact ⟨rfl, hT⟩
  · have hv : x = (x.floor : Rat) := by
      have h1 := HBW.out
      rw [decide_eq_true_iff] at h1
      rw [HZ.out]
      exact h1.symm
    have hfl := floor_neg_int hv
    rw [HZ.out] at hfl
    have HFL := Lib.hid hfl; clear hfl hv
    have nec : gc ≠ u13.heap.size := by have := kc.blk.lt; omega
    have nbc : Nb Ac nc u13.heap.size := Nb.low kc.bv (Nat.le_refl _)
    have geP := hT.size
    obtain ⟨Wp, hW, hbx, kp⟩ := box1 hrp
    have kvz := kv.below hbx
    have zv0 := kvz.c0
    have zv1 := kvz.c1
    rw [hW] at zv0 zv1
    go_wp2_with fail
    clear zv0 zv1
    clear kvz
    rw [← hW]
    clear hW
    have hT := hT.trans (hbx.mono hT.size)
    have ka := ka.below hbx
    have kv := kv.below hbx
    have kw := kw.below hbx
    have kc := kc.below hbx
    have hlp := kp.blk.lt
    (with_reducible refine (neg_any z _ _ kv.bv (up HKv.out (by decide))).mono ?_)
    rintro e u14 ⟨rn, rfl, hrn, hb9⟩
    have hT := hT.trans (hb9.mono hT.size)
    have ka := ka.below hb9
    have kv := kv.below hb9
    have kw := kw.below hb9
    have kc := kc.below hb9

    have kp := kp.below hb9
    obtain ⟨sn, An, nn, cn, rfl⟩ := hrn.form
    have nbn : Nb An nn u13.heap.size := hrn.nb hlp
    have t0 := kp.c0
    have t1 := kp.c1
    have f0 := kp.blk.frozen 0
    have f1 := kp.blk.frozen 1
    have kcz := kc.set2 nec nbc (.int .i64 sn) (.slice An nn cn)
    have kpz := kp.put hrn.bv nbn
    have zc0 := kcz.c0
    have zc1 := kcz.c1
    have zp0 := kpz.c0
    have zp1 := kpz.c1
    go_wp2_with fail
    clear zc0 zc1 zp0 zp1 t0 t1 f0 f1
    have hT := below_st hT geP (.int .i64 sn) (.slice An nn cn)
    generalize (u14.setCell ⟨u13.heap.size, 0, none⟩ (.int .i64 sn)).setCell ⟨u13.heap.size, 1, none⟩ (.slice An nn cn) = V at *
    have kc := kcz
    have kp := kpz
    clear kcz kpz ka kv kw
    (with_reducible refine (sameBig_any _ _ _ _ _ kc.bv kp.bv).mono ?_)
    rintro e u15 ⟨rfl, hb9⟩
    have hT := hT.trans (hb9.mono hT.size)
    have kc := kc.below hb9
    have kp := kp.below hb9
    rw [decide_eq_true HFL.out]
    go_wp2_with fail
    (with_reducible refine (rlof N 1 _ HN.out (by decide) (by decide)).mono ?_)
    rintro e u16 ⟨ro, rfl, hro, hb9⟩
    have hT := hT.trans (hb9.mono hT.size)
    have kc := kc.below hb9
    have kp := kp.below hb9
    rw [divInt_1] at hro
    obtain ⟨so, Ao, no, co, yo, Bo, mo, eo, rfl⟩ := hro.form
    go_wp2_with fail
    (with_reducible refine (rfloor _ hro.fv (rb_int HN.out.lt)).mono ?_)
    rintro e u17 ⟨rl, rfl, hrl, hb9⟩
    have hT := hT.trans (hb9.mono hT.size)
    have kc := kc.below hb9
    have kp := kp.below hb9
    rw [Rat.floor_intCast] at hrl
    obtain ⟨sl, Al, nl, cl, rfl⟩ := hrl.form
    go_wp2_with fail
    (with_reducible refine (of_any N _ HN.out.lo HN.out.hi).mono ?_)
    rintro e u18 ⟨rk, rfl, hrk, hb9⟩
    have hT := hT.trans (hb9.mono hT.size)
    have kc := kc.below hb9
    have kp := kp.below hb9
    have hrl2 := hrl.below hb9
    obtain ⟨sk, Ak, nk, ck, rfl⟩ := hrk.form
    go_wp2_with fail
    (with_reducible refine (sameBig_any _ _ _ _ _ hrl2.bv hrk.bv).mono ?_)
    rintro e u19 ⟨rfl, hb9⟩
    have hT := hT.trans (hb9.mono hT.size)
    have kc := kc.below hb9
    have kp := kp.below hb9
    rw [decide_eq_true rfl]
    go_wp2_with fail
    go_ret
    exact ⟨rfl, hT⟩

end Go.Proofs.YtbhdkgieahnojaaGreatDoor
