/- Walk: the reference's Late. Printed out of Early's (tools/mkOo.py). -/
import Derived.Test.YteiojobgjdfdpaaOn
namespace Go.Proofs.Yteiojobgjdfdpaa
open Go.RowKit Go.Shelf Go.Sort

theorem rlast_is (x : Am) (b : Bool) (t : Int) (w : World) (hM : ArcM w x.a x.A x.A') (h8 : -9223372036854775808 ≤ t) (h9 : t ≤ 9223372036854775807) :
    Calls Try.prog 45 #[x.v, .int .i64 t, .bool b] w fun e w' => e = .returned (.int .i64 (x.a.last b t)) ∧ Below w.heap.size w w' :=
  (rlast_any x.a x.A x.A' x.c x.c' b t w hM h8 h9).mono fun e w' he => by
    obtain ⟨z, rfl, e2, e3⟩ := he
    rw [e2.out.is]
    exact ⟨rfl, e3⟩

set_option maxRecDepth 100000 in
set_option maxHeartbeats 8000000 in
theorem rlate_yes (n m c : Nat) (A : Option Addr) (l : List Am) (src : Nat) (t : Int) (w : World) (hl : l.length = m) (hA : ArcsAt w.heap.size w A l) (hR : RRight n l) (hs : src < n) (ht : IsT t) :
    Calls Try.prog 16 #[.int .i64 n, .slice A m c, .int .i64 src, .int .i64 t] w (EndR w (netL n l) src t) := by
  have hRr := rrr_any n l A c m w hl hA true (by simp [hR])
  have HTt := Lib.hid (fun w => rTime_any t w true (decide_eq_true ht).symm)
  have hn9 : n ≤ 2000 := by have := hR.2.1; omega
  have hm9 : m ≤ 20000 := by have := hR.2.2.1; omega
  have HM := Lib.hid (fun w => run_mkB n (by omega) w)
  have HA := Lib.hid (And.intro hl (And.intro hA (And.intro hR ht)))
  have hz1 : decide ((src : Int) < 0) = false := decide_eq_false (by omega)
  have hz2 : decide ((n : Int) ≤ src) = false := decide_eq_false (by omega)
  clear hl hA hR ht
  go_enter Try.func16, Try.ntmps16
  go_wp2_with fail
  refine hRr.mono ?_
  rintro e w1 ⟨rfl, b1⟩
  have HB1 := Lib.hid b1
  clear b1 hRr
  go_wp2_with fail
  refine (HTt.out _).mono ?_
  rintro e w1' ⟨rfl, rfl⟩
  go_wp2_with fail
  refine (none_any n _ (by omega)).mono ?_
  rintro e w2 ⟨v, rfl, ho, b2⟩
  obtain ⟨gl, cap, hv, hgN, hgl, hcap⟩ := ho.some_of (by simp; omega)
  rw [List.length_replicate] at hv
  subst hv
  have hgN : w.heap.size ≤ gl := by have := HB1.out.size; omega
  have HO : Hid (OwnLb w2 w.heap.size (.slice (some ⟨gl, 0, none⟩) n cap) (List.replicate n ((-1, -1) : Lb))) := Lib.hid (own_low ho HB1.out.size)
  have HB2 := Lib.hid (HB1.out.trans (b2.mono HB1.out.size))
  clear ho b2 hz1 hz2
  obtain ⟨lab0, hlab0⟩ : ∃ lab0, (List.replicate n ((-1, -1) : Lb)).set src (t, -1) = lab0 := ⟨_, rfl⟩
  obtain ⟨W0, hW0⟩ : ∃ W0, (w2.alloc (.cells (bools n []).toArray 4)).setCell ⟨gl, src * 2, none⟩ (.int .i64 t) = W0 := ⟨_, rfl⟩
  have hsz2 := HB2.out.size
  have HS0 : Hid (RS W0 w.heap.size gl w2.heap.size n cap lab0 []) := Lib.hid (by rw [← hlab0]; exact RS.init HO.out hsz2 (by omega) hs hW0)
  have HB0 : Hid (Below w.heap.size w W0) := Lib.hid (by rw [← hW0]; exact (HB2.out.alloc hsz2 _).setCell (p := ⟨gl, src * 2, none⟩) hgN _)
  have HINI : Hid ((netL n l).ini src t = ⟨lab0, []⟩) := Lib.hid (by rw [← hlab0]; rfl)
  have f0 : (w2.alloc (.cells (bools n []).toArray 4)).frozen? ⟨gl, src * 2, none⟩ = false := World.ownsRow.frozenAt (World.ownsRow.alloc (HO.out.row (by simp)) _) _
  have hM2 := HM.out w2
  have g0 : (w2.alloc (.cells (bools n []).toArray 4)).cell? ⟨gl, src * 2, none⟩ = some (.int .i64 (-1)) := by
    rw [World.ownsRow.cellAt (World.ownsRow.alloc (HO.out.row (by simp)) _) (src * 2) (by omega), (flat_get _ src (by simpa using hs)).1]
    unfold gq
    rw [List.getD_eq_getElem?_getD, List.getElem?_replicate, if_pos hs]; rfl
  obtain ⟨gd, hgd⟩ : ∃ gd, w2.heap.size = gd := ⟨_, rfl⟩
  rw [hgd] at HS0 hM2
  clear hlab0
  go_wp2_with fail
  clear hW0 f0 g0 hM2
  go_loopw [12, 13, 14, 15, 16] (fun _ _ _ _ _ wr => ∃ (lab : List Lb) (dn : List Nat), Hid (RS wr w.heap.size gl gd n cap lab dn) ∧ Hid ((netL n l).Run ((netL n l).ini src t) ⟨lab, dn⟩) ∧ Hid (Below w.heap.size w wr)) (fun _ _ _ _ _ wr => unW wr gd n)
  case atStart => exact ⟨lab0, [], HS0, Lib.hid (by rw [HINI.out]; exact .refl _), HB0⟩
  case round =>
    clear HS0 HB0 HINI HO HM HTt HB1 HB2 hsz2
    obtain ⟨lab, dn, hS, hRun, hB⟩ := hrel
    have hlB := LabB.of_run (netL_ok HA.out.2.2.1) hs HA.out.2.2.2 hRun.out
    have HLB := Lib.hid hlB; clear hlB
    go_wp2_with fail
    go_loopw [12, 13] (fun zv iv wq => ∃ (i : Nat) (z : Int), zv = .int .i64 z ∧ iv = .int .i64 i ∧ i ≤ n ∧ Hid (PickTo true lab dn i z) ∧ Hid (RS wq w.heap.size gl gd n cap lab dn) ∧ Hid (Below w.heap.size w wq)) (fun _ iv _ => n - (intOf iv).toNat)
    case atStart => exact ⟨0, -1, rfl, rfl, by omega, Lib.hid .zero, hS, hB⟩
    case round =>
      clear hB
      obtain ⟨i, z, rfl, rfl, hi, hP, hS1, hB1⟩ := hrel
      by_cases hgo : i < n
      · have c1 := hS1.out.settled hgo
        have c2 := (hS1.out.labels hgo).1
        by_cases hd : i ∈ dn
        · rw [decide_eq_true hd] at c1
          have HD := Lib.hid hd; clear hd c2
          go_wp2_with fail
          go_quiet (fail)
          go_wp2_with fail
          go_roundw
          case rel => exact ⟨i + 1, _, rfl, rfl, by omega, Lib.hid (hP.out.skip (.inl HD.out)), Lib.hid (hS1.out.below (below_drewN (Below.refl _ _) _)), Lib.hid (below_drewN hB1.out _)⟩
          case measure => simp [intOf]; omega
        · rw [decide_eq_false hd] at c1
          have HD := Lib.hid hd; clear hd
          obtain ⟨T, hT⟩ : ∃ T, (lb lab i).1 = T := ⟨_, rfl⟩
          rw [hT] at c2
          have HT := Lib.hid hT; clear hT
          by_cases hp : 0 ≤ T
          · have hp1 : decide (0 ≤ T) = true := decide_eq_true hp
            rcases hP.out.lt with rfl | ⟨u, rfl, hu, hud, hup⟩
            · have HPp := Lib.hid hp; clear hp
              go_wp2_with fail
              go_quiet (fail)
              go_wp2_with fail
              go_roundw
              case rel => exact ⟨i + 1, _, rfl, rfl, by omega, Lib.hid (hP.out.first HD.out (by rw [HT.out]; exact HPp.out)), Lib.hid (hS1.out.below (below_drewN (Below.refl _ _) _)), Lib.hid (below_drewN hB1.out _)⟩
              case measure => simp [intOf]; omega
            · have hun : u < n := by omega
              have c3 := (hS1.out.labels hun).1
              obtain ⟨U, hU⟩ : ∃ U, (lb lab u).1 = U := ⟨_, rfl⟩
              rw [hU] at c3
              have HU := Lib.hid hU; clear hU hud hup
              have hu0 : decide ((u : Int) < 0) = false := decide_eq_false (by omega)
              have hmx : max (u : Int) 0 = u := by omega
              have HPp := Lib.hid hp; clear hp
              by_cases hlt : U < T
              · have hl1 : decide (U < T) = true := decide_eq_true hlt
                have HL := Lib.hid hlt; clear hlt
                go_wp2_with fail
                go_quiet (fail)
                go_wp2_with fail
                go_roundw
                case rel => exact ⟨i + 1, _, rfl, rfl, by omega, Lib.hid (hP.out.take HD.out (by rw [HT.out]; exact HPp.out) (by show -(lb lab i).1 < -(lb lab u).1; rw [HT.out, HU.out]; have := HL.out; omega)), Lib.hid (hS1.out.below (below_drewN (Below.refl _ _) _)), Lib.hid (below_drewN hB1.out _)⟩
                case measure => simp [intOf]; omega
              · have hl1 : decide (U < T) = false := decide_eq_false hlt
                have HL := Lib.hid (Int.not_lt.1 hlt); clear hlt
                go_wp2_with fail
                go_quiet (fail)
                go_wp2_with fail
                go_roundw
                case rel => exact ⟨i + 1, _, rfl, rfl, by omega, Lib.hid (hP.out.keep (by show -(lb lab u).1 ≤ -(lb lab i).1; rw [HT.out, HU.out]; have := HL.out; omega)), Lib.hid (hS1.out.below (below_drewN (Below.refl _ _) _)), Lib.hid (below_drewN hB1.out _)⟩
                case measure => simp [intOf]; omega
          · have hp1 : decide (0 ≤ T) = false := decide_eq_false hp
            have HPp := Lib.hid (Int.not_le.1 hp); clear hp
            go_wp2_with fail
            go_quiet (fail)
            go_wp2_with fail
            go_roundw
            case rel => exact ⟨i + 1, _, rfl, rfl, by omega, Lib.hid (hP.out.skip (.inr (by rw [HT.out]; exact HPp.out))), Lib.hid (hS1.out.below (below_drewN (Below.refl _ _) _)), Lib.hid (below_drewN hB1.out _)⟩
            case measure => simp [intOf]; omega
      · have e : n = i := by omega
        subst e
        rcases hP.out.lt with rfl | ⟨u, rfl, hun, hud, hup⟩
        · go_wp2_with fail
          refine bodyPost_ret (results_tmp2 rfl _ _ _) rfl ?_
          exact ⟨gl, cap, lab, by rfl, ⟨⟨lab, dn⟩, hRun.out, PickTo.fin (G := netL n l) (a := ⟨lab, dn⟩) hP.out, rfl⟩, hS1.out.l, hS1.out.len, hB1.out⟩
        · have HPk : Hid ((netL n l).pick ⟨lab, dn⟩ u) := Lib.hid (PickTo.pick (G := netL n l) (a := ⟨lab, dn⟩) hP.out)
          have hTu : IsT (lb lab u).1 := by
            rcases (hRun.out.inv (netL_ok HA.out.2.2.1) hs HA.out.2.2.2).ty u hun with k | ⟨k, _⟩
            · rw [k] at hup; exact absurd hup (by decide)
            · exact k
          obtain ⟨Tu, hTe⟩ : ∃ T, (lb lab u).1 = T := ⟨_, rfl⟩
          have HTu := Lib.hid (And.intro (hTe ▸ hTu) hTe)
          have huc := un_cons n dn u hun hud
          have HUN := Lib.hid huc
          have c1 := hS1.out.settled hun
          have f1 : wr.frozen? ⟨gd, u, none⟩ = false := World.ownsRow.frozenAt hS1.out.d _
          obtain ⟨W1, hW1⟩ : ∃ W1, wr.setCell ⟨gd, u, none⟩ (.bool true) = W1 := ⟨_, rfl⟩
          have HS2 : Hid (RS W1 w.heap.size gl gd n cap lab (u :: dn)) := Lib.hid (hW1 ▸ hS1.out.mark u)
          have HB2 : Hid (Below w.heap.size w W1) := Lib.hid (hW1 ▸ hB1.out.setCell (p := ⟨gd, u, none⟩) hS1.out.bl.2 _)
          clear hTu hTe huc hud hup hP
          go_wp2_with fail
          clear hW1 f1 c1
          go_loopw [14, 15, 16] (fun iv _ _ wq => ∃ i : Nat, iv = .int .i64 i ∧ i ≤ m ∧ Hid (RS wq w.heap.size gl gd n cap ((netL n l).relA (u :: dn) Tu ((netL n l).arcs u i) lab) (u :: dn)) ∧ Hid (Below w.heap.size w wq)) (fun iv _ _ _ => m - (intOf iv).toNat)
          case atStart => exact ⟨0, rfl, by omega, HS2, HB2⟩
          case round =>
            clear HS2 HB2 hS1 hB1
            obtain ⟨i, rfl, hi, hS3, hB3⟩ := hrel
            by_cases hgi : i < m
            · obtain ⟨b2, off2, hAe, hbB2, z0, z1, z2, z3, _⟩ := HA.out.2.1 i (by have := HA.out.1; omega)
              have hil : i < l.length := by have := HA.out.1; omega
              have hRx := HA.out.2.2.1.2.2.2 i hil
              have hM := HA.out.2.1.m (Nat.le_refl _) hil
              obtain ⟨p, hp⟩ : ∃ p : Nat, (am l i).a.t = (p : Int) := ⟨(am l i).a.t.toNat, by have := hRx.1.2.1; omega⟩
              obtain ⟨q, hq⟩ : ∃ q : Nat, (am l i).a.f = (q : Int) := ⟨(am l i).a.f.toNat, by have := hRx.1.1; omega⟩
              have hqn : q < n := by have := hRx.2.1; omega
              have es : (netL n l).s i = p := by show (am l i).a.t.toNat = p; rw [hp]; rfl
              have ed : (netL n l).d i = q := by show (am l i).a.f.toNat = q; rw [hq]; rfl
              have hnx := (netL n l).relA_next (u :: dn) Tu lab u i
              rw [es] at hnx
              subst hAe
              have y0 := (hB3.out.cell (p := ⟨b2, off2 + i * 4, none⟩) hbB2).trans z0
              have y1 := (hB3.out.cell (p := ⟨b2, off2 + i * 4 + 1, none⟩) hbB2).trans z1
              have y2 := (hB3.out.cell (p := ⟨b2, off2 + i * 4 + 2, none⟩) hbB2).trans z2
              have y3 := (hB3.out.cell (p := ⟨b2, off2 + i * 4 + 3, none⟩) hbB2).trans z3
              rw [hq] at y0
              rw [hp] at y1
              have hl3 : LabB ((netL n l).relA (u :: dn) Tu ((netL n l).arcs u i) lab) := HLB.out.relA _ _ _ _
              have hu3 : lb ((netL n l).relA (u :: dn) Tu ((netL n l).arcs u i) lab) u = lb lab u := Net.relA_dn _ (List.mem_cons_self)
              obtain ⟨lab', hlab'⟩ : ∃ L, (netL n l).relA (u :: dn) Tu ((netL n l).arcs u i) lab = L := ⟨_, rfl⟩
              rw [hlab'] at hnx hS3 hl3 hu3
              have HL3 := Lib.hid hl3
              clear hlab' z0 z1 z2 z3 hl3
              by_cases hpu : p = u
              · subst hpu
                rw [if_pos rfl] at hnx
                have HNX := Lib.hid hnx; clear hnx
                have hne : ((p : Int) != (p : Int)) = false := by simp
                have c1 := hS3.out.settled hqn
                by_cases hd : q ∈ p :: dn
                · rw [decide_eq_true hd] at c1
                  have HD := Lib.hid hd; clear hd
                  clear y2 y3 hu3
                  go_wp2_with fail
                  go_roundw
                  case rel => exact ⟨i + 1, by rfl, by omega, Lib.hid (by rw [HNX.out, Net.rel1_skip (fun h => h.2.1 (by rw [ed]; exact HD.out))]; exact hS3.out), hB3⟩
                  case measure => simp [intOf]; omega
                · rw [decide_eq_false hd] at c1
                  have HD := Lib.hid hd; clear hd
                  have c2 := (hS3.out.labels hun).1
                  rw [hu3, HTu.out.2] at c2
                  obtain ⟨x, hxm⟩ : ∃ x, am l i = x := ⟨_, rfl⟩
                  obtain ⟨zp, hzp⟩ : ∃ z, x.a.last true Tu = z := ⟨_, rfl⟩
                  have hzf : (netL n l).f i Tu = zp := by show (am l i).a.last true Tu = zp; rw [hxm]; exact hzp
                  rw [hxm] at y2 y3 hM hp hq
                  have HQ : Hid (∀ W, Below w.heap.size w W → Calls Try.prog 45 #[.agg #[.int .i64 q, .int .i64 p, .slice x.A x.a.lo.length x.c, .slice x.A' x.a.hi.length x.c'], .int .i64 Tu, .bool true] W fun e w'' => e = .returned (.int .i64 zp) ∧ Below W.heap.size W w'') := Lib.hid (fun W h => by
                    have hh := rlast_is x true Tu W (hM.below h) (by have := HTu.out.1.1; omega) (by have := HTu.out.1.2; omega)
                    unfold Am.v at hh
                    rw [hq, hp, hzp] at hh
                    exact hh)
                  have HED := Lib.hid (And.intro ed hzf)
                  have hzl := (netL_last (n := n) (t := Tu) hRx.1).low
                  have hzh := (netL_last (n := n) (t := Tu) hRx.1).high
                  rw [hzf] at hzl hzh
                  have HZ := Lib.hid (And.intro hzl hzh)
                  clear hzl hzh
                  clear hM hp hq hxm hzp es ed hzf hil hRx hu3
                  obtain ⟨n1, hn1⟩ : ∃ X, x.a.lo.length = X := ⟨_, rfl⟩
                  obtain ⟨n2, hn2⟩ : ∃ X, x.a.hi.length = X := ⟨_, rfl⟩
                  obtain ⟨A1, hA1⟩ : ∃ X, x.A = X := ⟨_, rfl⟩
                  obtain ⟨A2, hA2⟩ : ∃ X, x.A' = X := ⟨_, rfl⟩
                  obtain ⟨p1, hp1⟩ : ∃ X, x.c = X := ⟨_, rfl⟩
                  obtain ⟨p2, hp2⟩ : ∃ X, x.c' = X := ⟨_, rfl⟩
                  rw [hn1, hA1, hp1] at y2 HQ
                  rw [hn2, hA2, hp2] at y3 HQ
                  clear hn1 hn2 hA1 hA2 hp1 hp2
                  go_upto_region 20 with fail
                  have r0 := cell_regrown y0
                  have r1 := cell_regrown y1
                  have r2 := cell_regrown y2
                  have r3 := cell_regrown y3
                  have r4 := cell_regrown c2
                  have HQ2 : Hid (∀ xx os, Calls Try.prog 45 #[.agg #[.int .i64 q, .int .i64 p, (.slice A1 n1 p1), (.slice A2 n2 p2)], .int .i64 Tu, .bool true] (grow (redrawn wr xx) os) fun e w'' => e = .returned (.int .i64 zp) ∧ ∃ p : Regrown, w'' = grow (redrawn wr p.d) p.os) := Lib.hid (fun xx os => Calls.regrown_of (HQ.out _ (hB3.out.trans ((below_regrown wr xx os).mono hB3.out.size))))
                  refine wp_region_quiet_below (by kernel_rfl) (by kernel_rfl) ?_
                  repeat (quiet_step (first | (go_at_call 45; with_reducible exact HQ2.out _ _)))
                  refine wpQuiet_nil ?_
                  intro w6 hw6
                  have hB6 : Below wr.heap.size wr w6 := by obtain ⟨p, rfl⟩ := hw6; exact below_regrown wr p.d p.os
                  have HS6 := Lib.hid (hS3.out.below hB6)
                  have HB6 := Lib.hid (hB3.out.trans (hB6.mono hB3.out.size))
                  clear hw6 hB6 r0 r1 r2 r3 r4 HQ2 HQ y0 y1 y2 y3 c1 c2 hS3 hB3
                  obtain ⟨d0, d1⟩ := HS6.out.labels hqn
                  have hO := HL3.out q
                  obtain ⟨O, hOe⟩ : ∃ O, (lb lab' q).1 = O := ⟨_, rfl⟩
                  obtain ⟨Y, hYe⟩ : ∃ O, (lb lab' q).2 = O := ⟨_, rfl⟩
                  rw [hOe] at d0 hO
                  rw [hYe] at d1
                  have f2 : w6.frozen? ⟨gl, q * 2, none⟩ = false := World.ownsRow.frozenAt HS6.out.l _
                  have f3 : w6.frozen? ⟨gl, q * 2 + 1, none⟩ = false := World.ownsRow.frozenAt HS6.out.l _
                  have HST := Lib.hid (HS6.out.put hqn (zp, (i : Int)))
                  have HBS := Lib.hid (HS6.out.putBelow (Nat.le_refl _) HB6.out q (zp, (i : Int)))
                  have HIF : Hid ((IsT ((netL n l).f i Tu) ∧ (netL n l).d i ∉ p :: dn ∧ bet (netL n l).bk ((netL n l).f i Tu, (i : Int)) (lb lab' ((netL n l).d i))) ↔ (0 ≤ zp ∧ (zp = O ∧ (i : Int) < Y ∨ zp ≠ O ∧ (O = -1 ∨ -zp < -O)))) := Lib.hid (by
                    rw [HED.out.1, HED.out.2]
                    unfold bet
                    rw [hOe, hYe]
                    have hz := HZ.out
                    exact ⟨fun h => ⟨h.1.1, h.2.2⟩, fun h => ⟨⟨h.1, hz.2⟩, HD.out, h.2⟩⟩)
                  have HO := Lib.hid hO
                  clear hO hOe hYe
                  by_cases h1 : O < zp
                  · have h1' : decide (O < zp) = true := decide_eq_true h1
                    have H1 := Lib.hid h1; clear h1
                    go_wp2_with fail
                    go_roundw
                    case rel => exact ⟨i + 1, by rfl, by omega, Lib.hid (by rw [HNX.out, Net.rel1_do (HIF.out.2 (by have := HO.out; have := H1.out; omega)), HED.out.1, HED.out.2]; exact HST.out), HBS⟩
                    case measure => simp [intOf]; omega
                  · have h1' : decide (O < zp) = false := decide_eq_false h1
                    have H1 := Lib.hid (Int.not_lt.1 h1); clear h1
                    by_cases h2 : 0 ≤ zp
                    · have h2' : decide (0 ≤ zp) = true := decide_eq_true h2
                      have H2 := Lib.hid h2; clear h2
                      by_cases h3 : zp = O
                      · subst h3
                        have h3' : (zp == zp) = true := by simp
                        by_cases h4 : (i : Int) < Y
                        · have h4' : decide ((i : Int) < Y) = true := decide_eq_true h4
                          have H4 := Lib.hid h4; clear h4
                          go_wp2_with fail
                          go_roundw
                          case rel => exact ⟨i + 1, by rfl, by omega, Lib.hid (by rw [HNX.out, Net.rel1_do (HIF.out.2 ⟨H2.out, .inl ⟨by trivial, H4.out⟩⟩), HED.out.1, HED.out.2]; exact HST.out), HBS⟩
                          case measure => simp [intOf]; omega
                        · have h4' : decide ((i : Int) < Y) = false := decide_eq_false h4
                          have H4 := Lib.hid h4; clear h4
                          go_wp2_with fail
                          go_roundw
                          case rel => exact ⟨i + 1, by rfl, by omega, Lib.hid (by rw [HNX.out, Net.rel1_skip (fun h => by have := (HIF.out.1 h).2; have := H4.out; omega)]; exact HS6.out), HB6⟩
                          case measure => simp [intOf]; omega
                      · have h3' : (zp == O) = false := by simpa using h3
                        have H3 := Lib.hid h3; clear h3
                        go_wp2_with fail
                        go_roundw
                        case rel => exact ⟨i + 1, by rfl, by omega, Lib.hid (by rw [HNX.out, Net.rel1_skip (fun h => by have := (HIF.out.1 h).2; have := H3.out; have := H2.out; have := H1.out; omega)]; exact HS6.out), HB6⟩
                        case measure => simp [intOf]; omega
                    · have h2' : decide (0 ≤ zp) = false := decide_eq_false h2
                      have H2 := Lib.hid h2; clear h2
                      go_wp2_with fail
                      go_roundw
                      case rel => exact ⟨i + 1, by rfl, by omega, Lib.hid (by rw [HNX.out, Net.rel1_skip (fun h => by have := (HIF.out.1 h).1; have := H2.out; omega)]; exact HS6.out), HB6⟩
                      case measure => simp [intOf]; omega
              · rw [if_neg hpu] at hnx
                have HNX := Lib.hid hnx; clear hnx
                have hne : ((p : Int) != (u : Int)) = true := bne_iff_ne.2 (by omega)
                have HPU := Lib.hid hpu
                clear hpu y2 y3 hu3
                go_wp2_with fail
                go_roundw
                case rel => exact ⟨i + 1, by rfl, by omega, Lib.hid (by rw [HNX.out]; exact hS3.out), hB3⟩
                case measure => simp [intOf]; omega
            · have e : m = i := by omega
              subst e
              go_wp2_with fail
              go_roundw
              case rel => exact ⟨_, _, hS3, Lib.hid (by
                have := Net.Run.step hRun.out HPk.out
                unfold Net.nxt at this
                simp only [HTu.out.2] at this
                have e2 : (netL n l).m = m := HA.out.1
                rw [e2] at this
                exact this), hB3⟩
              case measure =>
                rw [hS3.out.unw, hS.out.unw]
                have := HUN.out
                omega

end Go.Proofs.Yteiojobgjdfdpaa
