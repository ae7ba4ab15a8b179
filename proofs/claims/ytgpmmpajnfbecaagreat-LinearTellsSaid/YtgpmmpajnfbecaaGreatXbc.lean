/- Walks: Compare, Neg, Int of big and of the reference, and the reference's Text, where an argument is not right. Printed by a program (rbad1.py). Walks: the reference's Gcd. Printed by a program. Walks: the reference's Sub. Printed by a program. -/
import Derived.Test.YtgpmmpajnfbecaaGreatXba
import Derived.Test.YtgpmmpajnfbecaaGreatXay

namespace Go.Proofs.YtgpmmpajnfbecaaGreat
open Go.RowKit

end Go.Proofs.YtgpmmpajnfbecaaGreat

namespace Go.Proofs.YtgpmmpajnfbecaaGreat
open Go.RowKit

set_option maxRecDepth 100000 in
set_option maxHeartbeats 8000000 in
theorem rgcd_any {s1 s2 : Int} {A1 A2 : Option Addr} {n1 c1 n2 c2 : Nat} {x y : Int} (w : World) (h1 : BV w w.heap.size (.agg #[.int .i64 s1, .slice A1 n1 c1]) x) (h2 : BV w w.heap.size (.agg #[.int .i64 s2, .slice A2 n2 c2]) y) (hx : ab x < pw 60) (hy : ab y < pw 60) :
    Calls Tryz.prog 58 #[.agg #[.int .i64 s1, .slice A1 n1 c1], .agg #[.int .i64 s2, .slice A2 n2 c2]] w fun e w' => ∃ r, e = .returned (.tuple #[r, .int .i64 0]) ∧ BO w' w.heap.size r ((Int.gcd x y : Nat) : Int) ∧ Below w.heap.size w w' := by
  have hs1 := (bv_sv h1).2.1
  have hs2 := (bv_sv h2).2.1
  have hl1 : (D (ab x)).length ≤ 60 := (D_len_le (ab_nonneg x)).2 hx
  have hl2 : (D (ab y)).length ≤ 60 := (D_len_le (ab_nonneg y)).2 hy
  have hr1 := fun (w' : World) (hbw : Below w.heap.size w w') => rRight_yes (h1.later hbw) hx
  have hr2 := fun (w' : World) (hbw : Below w.heap.size w w') => rRight_yes (h2.later hbw) hy
  have HR1 := Lib.hid hr1; clear hr1
  have HR2 := Lib.hid hr2; clear hr2
  have hs1' := fun (w' : World) (hbw : Below w.heap.size w w') => (bv_sv (h1.later hbw)).1
  have hs2' := fun (w' : World) (hbw : Below w.heap.size w w') => (bv_sv (h2.later hbw)).1
  have HS1 := Lib.hid hs1'; clear hs1'
  have HS2 := Lib.hid hs2'; clear hs2'
  have HX := Lib.hid hx; clear hx
  have HY := Lib.hid hy; clear hy
  obtain ⟨G, hG⟩ : ∃ G, ((Int.gcd x y : Nat) : Int) = G := ⟨_, rfl⟩
  rw [hG]
  have hg2 : ((Int.gcd (ab x) (ab y) : Nat) : Int) = G := by rw [← hG]; unfold ab; simp [Int.gcd]
  have HG := Lib.hid hg2; clear hG hg2
  clear hs1 hs2 hl1 hl2 h1 h2
  obtain ⟨W, hW, hbx, k1, k2, kR, hsz⟩ := boxes3 w #[.int .i64 s1, .slice A1 n1 c1] #[.int .i64 s2, .slice A2 n2 c2] #[.int .i64 0, .slice none 0 0]
  go_enter Tryz.func58, Tryz.ntmps58
  go_wp2_with fail
  rw [← hW]
  clear hW hsz
  have hT := hbx
  have a0 := k1.cell 0
  have a1 := k1.cell 1
  simp at a0 a1
  go_wp2_with fail
  clear a0 a1
  (with_reducible refine (HR1.out _ hT).mono ?_)
  rintro e u1 ⟨rfl, hb9⟩
  have hT := hT.trans (hb9.mono hT.size)
  have k1 := k1.below hb9 k1.lt
  have k2 := k2.below hb9 k2.lt
  have kR := kR.below hb9 kR.lt
  have b0 := k2.cell 0
  have b1 := k2.cell 1
  simp at b0 b1
  go_wp2_with fail
  clear b0 b1
  (with_reducible refine (HR2.out _ hT).mono ?_)
  rintro e u ⟨rfl, hb9⟩
  have hT := hT.trans (hb9.mono hT.size)
  have k1 := k1.below hb9 k1.lt
  have k2 := k2.below hb9 k2.lt
  have kR := kR.below hb9 kR.lt
  have a0 := k1.cell 0
  have a1 := k1.cell 1
  have b0 := k2.cell 0
  have b1 := k2.cell 1
  simp at a0 a1 b0 b1
  go_wp2_with fail
  clear a0 a1 b0 b1 k1 k2
  have hlt := kR.lt
  go_loopg [6, 7] (ab y).toNat (fun g vx vy wr => ∃ X Y : Int, g = Y.toNat ∧ Sv wr vx (D X) ∧ Sv wr vy (D Y) ∧ 0 ≤ X ∧ 0 ≤ Y ∧ Hid (X < pw 60) ∧ Hid (Y < pw 60) ∧ Hid (((Int.gcd X Y : Nat) : Int) = G) ∧ Below u.heap.size u wr)
  case atStart => exact ⟨ab x, ab y, rfl, HS1.out _ hT, HS2.out _ hT, ab_nonneg _, ab_nonneg _, HX, HY, HG, Below.refl _ _⟩
  case round =>
    obtain ⟨X, Y, hg, ⟨Ax, cx, rfl, hx1, hx2, hx3⟩, ⟨Ay, cy, rfl, hy1, hy2, hy3⟩, hX0, hY0, hXl, hYl, hgc, hbw⟩ := hrel
    have hvx : Sv wr (.slice Ax (D X).length cx) (D X) := ⟨Ax, cx, rfl, hx1, hx2, hx3⟩
    have hvy : Sv wr (.slice Ay (D Y).length cy) (D Y) := ⟨Ay, cy, rfl, hy1, hy2, hy3⟩
    clear hx1 hx2 hx3 hy1 hy2 hy3
    have hs := hbw.size
    by_cases hy0 : 0 < Y
    · have hov := rover_any (D X) (D Y) _ _ wr hvx hvy (Dig_D _) (Dig_D _) (by have := (D_len_le hX0).2 hXl.out; omega) (by have := (D_len_le hY0).2 hYl.out; omega) Y (nv_D hY0) (by omega)
      rw [nv_D hX0] at hov
      have hlp := D_len_pos hy0
      have hm0 := Int.emod_nonneg X (b := Y) (by omega)
      have hm1 := Int.emod_lt_of_pos X (b := Y) (by omega)
      have hgm : ((Int.gcd Y (X % Y) : Nat) : Int) = G := by rw [← hgc.out, Int.emod_def, Int.mul_comm, Int.gcd_sub_mul_right_right, Int.gcd_comm]
      obtain ⟨m, hm⟩ : ∃ m, X % Y = m := ⟨_, rfl⟩
      rw [hm] at hov hm0 hm1 hgm
      obtain ⟨n, hn⟩ : ∃ n, (D Y).length = n := ⟨_, rfl⟩
      obtain ⟨nx, hnx⟩ : ∃ n, (D X).length = n := ⟨_, rfl⟩
      rw [hnx] at hov ⊢
      rw [hn] at hlp hov hvy ⊢
      have HVY := Lib.hid hvy; clear hvy hnx
      have HOV := Lib.hid hov; clear hov
      have HGM := Lib.hid hgm; clear hgm
      have HGG := Lib.hid hg; clear hg
      clear hm hn hvx
      go_wp2_with fail
      (with_reducible refine HOV.out.mono ?_)
      rintro e w5 ⟨v1, v2, rfl, hv1, hv2, hb5⟩
      go_wp2_with fail
      go_roundg m.toNat
      case measure => have := HGG.out; omega
      case rel => exact ⟨Y, m, rfl, HVY.out.later hb5, hv2.sv, hY0, hm0, hYl, Lib.hid (by have := hYl.out; omega), HGM, hbw.trans (hb5.mono hs)⟩
    · have hy00 : Y = 0 := by omega
      subst hy00
      have hXG : X = G := by
        have := hgc.out
        rw [Int.gcd_zero_right] at this
        omega
      have hmd := rmade_any (D X) 1 G _ wr hvx (Dig_D _) (by have := (D_len_le hX0).2 hXl.out; omega) (by rw [nv_D hX0, hXG, Int.one_mul]) (.inl rfl)
      clear hvy
      obtain ⟨nx, hnx⟩ : ∃ n, (D X).length = n := ⟨_, rfl⟩
      rw [hnx] at hmd ⊢
      clear hnx
      obtain ⟨n, hn⟩ : ∃ n, (D 0).length = n := ⟨_, rfl⟩
      have hn0 : n = 0 := by rw [← hn, D_zero]; rfl
      rw [hn]
      subst hn0
      have HMD := Lib.hid hmd; clear hmd
      have hT := hT.trans (hbw.mono hT.size)
      have kR := kR.below hbw kR.lt
      have hltR := kR.lt
      clear hn hXG hvx hg
      go_wp2_with fail
      (with_reducible refine HMD.out.mono ?_)
      rintro e w5 ⟨r, rfl, hr, hb5⟩
      have hT := hT.trans (hb5.mono hT.size)
      have kR := kR.below hb5 hltR
      obtain ⟨s6, A6, n6, c6, rfl⟩ := hr.form
      have r0 := kR.cell 0
      have r1 := kR.cell 1
      have f0 := kR.frozen 0
      have f1 := kR.frozen 1
      simp at r0 r1
      have hbs := kR.set2 (.int .i64 s6) (.slice A6 n6 c6)
      have x0 := hbs.cell 0
      have x1 := hbs.cell 1
      simp at x0 x1
      go_wp2_with fail
      refine bodyPost_ret (v := .tuple #[.agg #[.int .i64 s6, .slice A6 n6 c6], .int .i64 0]) (by simp [results, Tryz.results58, go_sem, x0, x1]) rfl ?_
      exact ⟨_, rfl, (hr.far2 hltR _ _).mono (by omega), below_st hT (by omega) _ _⟩

end Go.Proofs.YtgpmmpajnfbecaaGreat

namespace Go.Proofs.YtgpmmpajnfbecaaGreat
open Go.RowKit

set_option maxRecDepth 100000 in
set_option maxHeartbeats 8000000 in
theorem rsubb_any {s1 s2 : Int} {A1 A2 : Option Addr} {n1 c1 n2 c2 : Nat} {x y : Int} (w : World) (h1 : BV w w.heap.size (.agg #[.int .i64 s1, .slice A1 n1 c1]) x) (h2 : BV w w.heap.size (.agg #[.int .i64 s2, .slice A2 n2 c2]) y) (hx : ab x < pw 60) (hy : ab y < pw 60) :
    Calls Tryz.prog 47 #[.agg #[.int .i64 s1, .slice A1 n1 c1], .agg #[.int .i64 s2, .slice A2 n2 c2]] w fun e w' => ∃ r, e = .returned (.tuple #[r, .int .i64 (fite (x - y))]) ∧ BO w' w.heap.size r (fitz (x - y)) ∧ Below w.heap.size w w' := by
  obtain ⟨E, hE⟩ : ∃ E, fite (x - y) = E := ⟨_, rfl⟩
  obtain ⟨F, hF⟩ : ∃ E, fitz (x - y) = E := ⟨_, rfl⟩
  rw [hE, hF]
  have HZE := Lib.hid hE; clear hE
  have HZF := Lib.hid hF; clear hF
  have HX := Lib.hid hx; clear hx
  have HY := Lib.hid hy; clear hy
  obtain ⟨W, hW, hbx, k1, k2, k3, hsz⟩ := boxes3 w #[.int .i64 s1, .slice A1 n1 c1] #[.int .i64 s2, .slice A2 n2 c2] #[.int .i64 0, .slice none 0 0]
  have ka : Bx W w.heap.size s1 A1 n1 c1 x := ⟨k1, h1.later hbx⟩
  have kb : Bx W (w.heap.size + 1) s2 A2 n2 c2 y := ⟨k2, h2.later hbx⟩
  have kR : Bx W (w.heap.size + 1 + 1) 0 none 0 0 0 := ⟨k3, BV.zero _ _⟩
  clear k1 k2 k3 h1 h2
  go_enter Tryz.func47, Tryz.ntmps47
  go_wp2_with fail
  rw [← hW]
  clear hW hsz
  have hT := hbx
  have zb0 := kb.c0
  have zb1 := kb.c1
  go_wp2_with fail
  clear zb0 zb1
  (with_reducible refine (rRight_yes kb.bv HY.out).mono ?_)
  rintro e u1 ⟨rfl, hb9⟩
  have hT := hT.trans (hb9.mono hT.size)
  have ka := ka.below hb9
  have kb := kb.below hb9
  have kR := kR.below hb9
  have hlt := kR.blk.lt
  have HLT := Lib.hid hlt; clear hlt
  have e0 : ∀ W' : World, Below u1.heap.size u1 W' → W'.cell? ⟨w.heap.size, 0, none⟩ = some (.int .i64 s1) ∧ W'.cell? ⟨w.heap.size, 1, none⟩ = some (.slice A1 n1 c1) ∧ W'.cell? ⟨w.heap.size + 1, 0, none⟩ = some (.int .i64 s2) ∧ W'.cell? ⟨w.heap.size + 1, 1, none⟩ = some (.slice A2 n2 c2) ∧ Below u1.heap.size u1 W' := fun W' hW =>
    ⟨(ka.below hW).c0, (ka.below hW).c1, (kb.below hW).c0, (kb.below hW).c1, hW⟩
  have E0 := Lib.hid e0; clear e0
  have hB00 : Below u1.heap.size u1 u1.drew := (Below.refl _ _).drew
  have hml := fun (w' : World) (hb : Below u1.heap.size u1 w') s A n c (h : BV w' w'.heap.size (.agg #[.int .i64 s, .slice A n c]) (-y)) => raddb_any w' (ka.below hb).bv h HX.out (by rw [ab_neg]; exact HY.out)
  rw [← Int.sub_eq_add_neg, HZE.out, HZF.out] at hml
  have hng := fun (w' : World) (hb : Below u1.heap.size u1 w') => rneg_any w' (kb.below hb).bv HY.out
  have HNG := Lib.hid hng; clear hng
  have HML := Lib.hid hml; clear hml
  have hTs := hT.size
  go_upto_region 3 with fail
  go_cut [6, 7] from 12 to 18 (fun p e wx => ∃ (g : Nat) (s : Int) (A : Option Addr) (n c : Nat), p = .pointer (some ⟨g, 0, none⟩) ∧ e = .int .i64 E ∧ (Blk wx g 39 #[.int .i64 s, .slice A n c] ∧ BO wx u1.heap.size (.agg #[.int .i64 s, .slice A n c]) F) ∧ Below u1.heap.size u1 wx)
  case first =>
    go_region_held3 (fun W' => W'.cell? ⟨w.heap.size, 0, none⟩ = some (.int .i64 s1) ∧ W'.cell? ⟨w.heap.size, 1, none⟩ = some (.slice A1 n1 c1) ∧ W'.cell? ⟨w.heap.size + 1, 0, none⟩ = some (.int .i64 s2) ∧ W'.cell? ⟨w.heap.size + 1, 1, none⟩ = some (.slice A2 n2 c2) ∧ Below u1.heap.size u1 W')
      (first | exact E0.out _ (below_st hB5 hge _ _) | exact E0.out _ (below_new hB5 _) | exact E0.out _ (below_new hB4 _) | exact E0.out _ (below_new hB00 _) | exact E0.out _ (by assumption) | exact E0.out _ ⟨rfl, rfl, rfl, Nat.le_refl _, fun _ _ => rfl⟩)
      (first
        | (go_at_call 64; have _h := hB4; (first | refine (HML.out _ hB4 _ _ _ _ hq1.bv).mono ?_ | refine (HML.out _ (below_new hB4 _) _ _ _ _ (hq1.bv.new _)).mono ?_); rintro e u3 ⟨rc, rfl, hrc, hb5⟩; have hB5 : Below u1.heap.size u1 u3 := (by first | exact hB4.trans (hb5.mono hB4.size) | exact (below_new hB4 _).trans (hb5.mono (below_new hB4 _).size)); obtain ⟨sc, Ac, nc, cc, rfl⟩ := hrc.form; (try (have hk5 := blk_run hb5; have hge := hB4.size; have hlt : u2.heap.size < (u2.alloc (.cells #[.int .i64 0, .slice none 0 0] 39)).heap.size := (by simp); have z0 := hk5.cell 0; have z1 := hk5.cell 1; have y0 := hk5.frozen 0; have y1 := hk5.frozen 1)); (try (have hk5 := hk4.below hb5 hk4.lt; have hge := Nat.le_refl u1.heap.size; have hlt := hk4.lt; have z0 := hk5.cell 0; have z1 := hk5.cell 1; have y0 := hk5.frozen 0; have y1 := hk5.frozen 1)))
        | (go_at_call 65; (first | refine (HNG.out _ hB00).mono ?_ | refine (HNG.out _ (below_new hB00 _)).mono ?_); rintro e u2 ⟨r1, rfl, hq1, hb4⟩; have hB4 : Below u1.heap.size u1 u2 := (by first | exact ⟨hb4.os, hb4.tape, hb4.output, hb4.size, hb4.block⟩ | exact (below_new hB00 _).trans (hb4.mono (below_new hB00 _).size)); obtain ⟨sh, Ah, nh, ch, rfl⟩ := hq1.form; (try (have hk4 : Blk u2 u1.heap.size 39 #[.int .i64 0, .slice none 0 0] := blk_run (b := u1.drew) hb4))))
    all_goals
      go_wp2_with fail
      go_meet
      first
        | exact ⟨_, _, _, _, _, rfl, rfl, ⟨(box_new hrc).blk, (hrc.below ((Below.refl _ _).alloc (Nat.le_refl _) _)).mono (by first | exact hB4.size | exact (below_new hB4 _).size)⟩, below_new hB5 _⟩
        | exact ⟨_, _, _, _, _, rfl, rfl, ⟨(box_st hk5 hrc hlt).blk, (hrc.far2 hlt _ _).mono (by first | exact hB4.size | exact (below_new hB4 _).size)⟩, below_st hB5 hge _ _⟩
  obtain ⟨gc, sc, Ac, nc, cc, rfl, rfl, kc, hb9⟩ := hcut
  clear E0 hB00 HML hTs
  have hT := hT.trans (hb9.mono hT.size)
  have ka := ka.below hb9
  have kb := kb.below hb9
  have kR := kR.below hb9
  obtain ⟨kcb, kco⟩ := kc
  have c0 := kcb.cell 0
  have c1 := kcb.cell 1
  have r0 := kR.blk.cell 0
  have r1 := kR.blk.cell 1
  have f0 := kR.blk.frozen 0
  have f1 := kR.blk.frozen 1
  simp at c0 c1 r0 r1
  have hbs := kR.blk.set2 (.int .i64 sc) (.slice Ac nc cc)
  have x0 := hbs.cell 0
  have x1 := hbs.cell 1
  simp at x0 x1
  go_wp2_with fail
  refine bodyPost_ret (v := .tuple #[.agg #[.int .i64 sc, .slice Ac nc cc], .int .i64 E]) (by simp [results, Tryz.results47, go_sem, x0, x1]) rfl ?_
  exact ⟨_, rfl, (kco.far2 HLT.out _ _).mono (by have := HLT.out; omega), below_st hT (by omega) _ _⟩

end Go.Proofs.YtgpmmpajnfbecaaGreat
