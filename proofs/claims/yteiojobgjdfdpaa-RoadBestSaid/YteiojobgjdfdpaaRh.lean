/- Walks: RoadBest. -/
import Derived.Test.YteiojobgjdfdpaaRd
import Derived.Test.YteiojobgjdfdpaaRg
import Derived.Test.YteiojobgjdfdpaaCo
import Derived.Lib.QuietBelow
namespace Go.Proofs.Yteiojobgjdfdpaa
open Go.RowKit Go.Sort

set_option maxRecDepth 100000 in
set_option maxHeartbeats 8000000 in
theorem roadBest_any (n : Int) (l : List Am) (A : Option Addr) (c m : Nat) (dst y : Int) (hb : Bool) (w : World) (hl : l.length = m) (hA : ArcsAt w.heap.size w A l) (hm : m ≤ 9223372036854775807) :
    Calls Try.prog 4 #[.int .i64 n, .slice A m c, .int .i64 dst, .int .i64 y, .bool hb] w fun e w' => e = .returned (.bool true) ∧ Below w.heap.size w w' := by
  have HA := Lib.hid (And.intro hl hA)
  clear hl hA
  go_enter Try.func4, Try.ntmps4
  go_wp2_with fail
  refine (small_any _).mono ?_
  rintro e w0 ⟨rfl, b0⟩
  have H0 := Lib.hid (And.intro ((HA.out.2.below b0).more b0.size) b0)
  clear b0
  go_wp2_with fail
  refine (few11_any n l A c m w0 HA.out.1 H0.out.1 hm).mono ?_
  rintro e w0' ⟨r, rfl, hFP, rfl⟩
  cases r with
  | false =>
    clear hFP
    go_wp2_with fail
    go_ret
    exact ⟨rfl, H0.out.2⟩
  | true =>
    have HF := Lib.hid (hFP rfl)
    clear hFP
    obtain ⟨r2, hr2⟩ : ∃ r2 : Bool, r2 = true ↔ RRight n l := by
      by_cases h : RRight n l
      · exact ⟨true, by simp [h]⟩
      · exact ⟨false, by simp [h]⟩
    have HRr := Lib.hid hr2; clear hr2
    go_wp2_with fail
    refine (rr_any n l A c m w0 HA.out.1 H0.out.1 r2 HRr.out).mono ?_
    rintro e w1 ⟨rfl, b1⟩
    have H1 := Lib.hid (And.intro ((H0.out.1.below b1).more b1.size) (H0.out.2.trans (b1.mono H0.out.2.size)))
    clear b1
    cases r2 with
    | false =>
      go_wp2_with fail
      go_ret
      exact ⟨rfl, H1.out.2⟩
    | true =>
      have HR := Lib.hid (HRr.out.1 rfl)
      have hn1 : 1 ≤ n := HR.out.1
      by_cases hd0 : dst < 0
      · go_wp2_with fail
        go_ret
        exact ⟨rfl, H1.out.2⟩
      · by_cases hd1 : n ≤ dst
        · go_wp2_with fail
          go_ret
          exact ⟨rfl, H1.out.2⟩
        · obtain ⟨r3, hr3⟩ : ∃ r3, r3 = decide (0 ≤ y ∧ y ≤ 1048576) := ⟨_, rfl⟩
          have HT := Lib.hid hr3; clear hr3
          go_wp2_with fail
          refine (rTime_any y w1 r3 HT.out).mono ?_
          rintro e w1' ⟨rfl, rfl⟩
          cases r3 with
          | false =>
            go_wp2_with fail
            go_ret
            exact ⟨rfl, H1.out.2⟩
          | true =>
            have hT : IsT y := of_decide_eq_true HT.out.symm
            have HT := Lib.hid hT; clear hT
            obtain ⟨n0, rfl⟩ : ∃ n0 : Nat, n = (n0 : Int) := ⟨n.toNat, by omega⟩
            obtain ⟨d0, rfl⟩ : ∃ d0 : Nat, dst = (d0 : Int) := ⟨dst.toNat, by omega⟩
            have hdn : d0 < n0 := by omega
            have hn12 : n0 ≤ 12 := by
              have h1 := HF.out.2.1
              have h2 := HR.out.2.1
              omega
            have hm30 : m ≤ 100 := by
              have h1 := HF.out.1
              have h2 := HA.out.1
              omega
            go_wp2_with fail
            refine (earlyL n0 m c A l d0 y hb w1 HA.out.1 H1.out.1 HR.out hdn HT.out hm30).mono ?_
            rintro e w2 ⟨gl, lab, rfl, hE, hF, hL, hlen, b2⟩
            have H2 := Lib.hid (And.intro ((H1.out.1.below b2).more b2.size) (H1.out.2.trans (b2.mono H1.out.2.size)))
            have HLt := Lib.hid (And.intro hF (And.intro hL hlen))
            clear hE hF hL hlen b2
            go_wp2_with fail
            have HP := Lib.hid (fun (i : Nat) (hi : i < m) (t : Int) (W : World) (h : Below w2.heap.size w2 W) => pass_any (am l i).a (am l i).A (am l i).A' (am l i).c (am l i).c' hb t W (((H2.out.1.below h).more h.size).m (Nat.le_refl _) (by have := HA.out.1; omega)))
            go_loopw [14] (fun iv wr => ∃ v : Nat, iv = .int .i64 v ∧ v ≤ n0 ∧ Hid (Below w2.heap.size w2 wr)) (fun iv _ => n0 - (intOf iv).toNat)
            case atStart => exact ⟨0, rfl, by omega, Lib.hid (Below.refl _ _)⟩
            case round =>
              obtain ⟨v, rfl, hv, hB⟩ := hrel
              by_cases hgo : v < n0
              · have hw := Lib.hid (way_any (some ⟨gl, 0, none⟩) A n0 n0 m c lab l (v : Int) wr HLt.out.2.2 HA.out.1 ((HLt.out.2.1.below hB.out).more hB.out.size) ((H2.out.1.below hB.out).more hB.out.size) (by omega) _ rfl)
                go_wp2_with fail
                refine hw.out.mono ?_
                rintro e w3 ⟨A3, c3, rfl, o3, b3⟩
                obtain ⟨a4, cap4, e4, i3⟩ := o3.ints
                injection e4 with q1 _ _
                subst q1
                have HB3 := Lib.hid (hB.out.trans (b3.mono hB.out.size))
                have c01 := (HLt.out.2.1.below HB3.out).get HLt.out.2.2 hgo
                have hty := HLt.out.1.ty v hgo
                obtain ⟨c0, c1⟩ := c01
                clear hw o3 b3
                rcases hty with hx | ⟨hx, _⟩
                · rw [hx] at c0 c1
                  have hz := way_none (ar := ends l) (m := m) (v := v) (lab := lab) (by rw [hx])
                  rw [hz]
                  clear hz hx i3
                  go_wp2_with fail
                  go_roundw
                  case rel => exact ⟨v + 1, rfl, by omega, HB3⟩
                  case measure => simp [intOf]; omega
                · obtain ⟨p, hp, hpl⟩ := HLt.out.1.leads hgo hx.1
                  have hz := hp.way HR.out HLt.out.1 hdn hgo hx.1 hpl
                  rw [HA.out.1] at hz
                  rw [hz] at i3 ⊢
                  rw [List.length_map]
                  obtain ⟨x, hxe⟩ : ∃ x, (lb lab v).1 = x := ⟨_, rfl⟩
                  rw [hxe] at c0 hx
                  have h1 : x ≠ -1 := by have := hx.1; omega
                  have h2 : (x == -1) = false := by simpa using h1
                  have HX := Lib.hid (And.intro hxe (And.intro hp (And.intro hpl i3)))
                  clear c1 hz hx hxe hp i3
                  have hp12 : p.length ≤ 12 := by have := HX.out.2.2.1; have : (netE n0 l hb).n = n0 := rfl; omega
                  go_wp2_with fail
                  go_loopw [16, 17, 18] (fun av nv jv wq => ∃ (j u : Nat) (T : Int), jv = .int .i64 j ∧ av = .int .i64 u ∧ nv = .int .i64 T ∧ j ≤ p.length ∧ Hid (u = nodeAt (netE n0 l hb) d0 p j ∧ T = (lb lab u).1) ∧ Hid (Below w3.heap.size w3 wq)) (fun _ _ jv _ => p.length - (intOf jv).toNat)
                  case atStart => exact ⟨0, d0, y, rfl, rfl, rfl, by omega, Lib.hid ⟨rfl, by rw [HLt.out.1.sr]⟩, Lib.hid (Below.refl _ _)⟩
                  case round =>
                    obtain ⟨j, u, T, rfl, rfl, rfl, hj, hU, hBq⟩ := hrel
                    by_cases hgj : j < p.length
                    · obtain ⟨hi, hs, h0, he⟩ := HX.out.2.1.at_ j hgj
                      obtain ⟨b4, off4, hAe4, hbB4, k4⟩ := HX.out.2.2.2 j (by rw [List.length_map]; exact hgj)
                      have e5 : (p.map (fun i : Nat => (i : Int))).getD j 0 = ((p.getD j 0 : Nat) : Int) := by
                        rw [List.getD_eq_getElem?_getD, List.getElem?_map, List.getElem?_eq_getElem hgj, List.getD_eq_getElem?_getD, List.getElem?_eq_getElem hgj]; rfl
                      rw [e5] at k4
                      clear e5
                      obtain ⟨i0, hi0⟩ : ∃ i0, p.getD j 0 = i0 := ⟨_, rfl⟩
                      rw [hi0] at hi hs he k4
                      have hbb : Below w2.heap.size w2 wr := HB3.out.trans (hBq.out.mono HB3.out.size)
                      have him : i0 < m := by have := HA.out.1; have h : i0 < l.length := hi; omega
                      obtain ⟨b2, off2, hAe, hbB2, z0, z1, z2, z3, _⟩ := H2.out.1 i0 (by have := HA.out.1; omega)
                      have hPx := HP.out i0 him T
                      have hRx := HR.out.2.2.2 i0 hi
                      have eu : (u : Int) = (am l i0).a.f := by
                        have h1 : (am l i0).a.f.toNat = nodeAt (netE n0 l hb) d0 p j := hs
                        have h2 := hU.out.1
                        have h3 := hRx.1.1
                        omega
                      have et : (am l i0).a.t = ((nodeAt (netE n0 l hb) d0 p (j + 1) : Nat) : Int) := by
                        have h1 : nodeAt (netE n0 l hb) d0 p (j + 1) = (am l i0).a.t.toNat := by
                          unfold nodeAt
                          rw [if_neg (by omega), Nat.add_sub_cancel, hi0]; rfl
                        have h3 := hRx.1.2.1
                        omega
                      have hz : (am l i0).a.pass hb T = (lb lab (nodeAt (netE n0 l hb) d0 p (j + 1))).1 := by
                        rw [he, hU.out.2, hU.out.1]; rfl
                      obtain ⟨u2, hu2⟩ : ∃ u2, nodeAt (netE n0 l hb) d0 p (j + 1) = u2 := ⟨_, rfl⟩
                      rw [hu2] at et hz
                      have HU2 := Lib.hid hu2.symm
                      clear hu2
                      obtain ⟨x, hxm⟩ : ∃ x, am l i0 = x := ⟨_, rfl⟩
                      rw [hxm] at z0 z1 z2 z3 hPx eu et hz
                      subst hAe; subst hAe4
                      have y0 := (hbb.cell (p := ⟨b2, off2 + i0 * 4, none⟩) hbB2).trans z0
                      have y1 := (hbb.cell (p := ⟨b2, off2 + i0 * 4 + 1, none⟩) hbB2).trans z1
                      have y2 := (hbb.cell (p := ⟨b2, off2 + i0 * 4 + 2, none⟩) hbB2).trans z2
                      have y3 := (hbb.cell (p := ⟨b2, off2 + i0 * 4 + 3, none⟩) hbB2).trans z3
                      have k4 := (hBq.out.cell (p := ⟨b4, off4 + j, none⟩) hbB4).trans k4
                      have hPx := Lib.hid hPx
                      have e6 : (x.a.f != (u : Int)) = false := by rw [eu]; simp
                      have e7 : 0 ≤ (i0 : Int) := by omega
                      have e8 : ¬ m ≤ i0 := by omega
                      have HE := Lib.hid (And.intro et hz)
                      have hsq := hBq.out.size
                      have hbb := Lib.hid hbb
                      clear z0 z1 z2 z3 eu et hz hxm hRx hs h0 he hi hi0
                      go_wp2_with fail
                      refine (hPx.out _ (hbb.out.alloc hbb.out.size _)).mono ?_
                      rintro e w5 ⟨z, rfl, hz, bz⟩
                      have hzz : z = (lb lab u2).1 := hz.out.is.trans HE.out.2
                      have k9 : w5.cell? ⟨wr.heap.size, 1, none⟩ = some (.int .i64 x.a.t) := (bz.cell (p := ⟨wr.heap.size, 1, none⟩) (by simp)).trans ((Blk.new wr 39 #[.int .i64 x.a.f, .int .i64 x.a.t, .slice x.A x.a.lo.length x.c, .slice x.A' x.a.hi.length x.c']).cell 1)
                      rw [HE.out.1] at k9
                      have H5 := Lib.hid (And.intro hzz ((hBq.out.alloc hsq _).trans (bz.mono (by simp; omega))))
                      clear hz bz hzz
                      go_wp2_with fail
                      go_roundw
                      case rel => exact ⟨j + 1, u2, z, rfl, rfl, rfl, by omega, Lib.hid ⟨HU2.out, H5.out.1⟩, Lib.hid H5.out.2⟩
                      case measure => simp [intOf]; omega
                    · have : j = p.length := by omega
                      subst this
                      have hu : u = v := hU.out.1.trans HX.out.2.1.last
                      subst hu
                      have hT : T = x := hU.out.2.trans HX.out.1
                      subst hT
                      have c0 := (hBq.out.cell (p := ⟨gl, u * 2, none⟩) (block_lt_of_cell c0)).trans c0
                      go_wp2_with fail
                      go_roundw
                      case rel => exact ⟨u + 1, rfl, by omega, Lib.hid (HB3.out.trans (hBq.out.mono HB3.out.size))⟩
                      case measure => simp [intOf]; omega
              · have : n0 = v := by omega
                subst this
                go_wp2_with fail
                have hB0 := hB.out
                obtain ⟨W, hW⟩ : ∃ W, wr = W := ⟨_, rfl⟩
                subst hW
                go_loopw [20] (fun iv wq => ∃ i : Nat, iv = .int .i64 i ∧ i ≤ m ∧ Hid (Below w2.heap.size w2 wq)) (fun iv _ => m - (intOf iv).toNat)
                case atStart => exact ⟨0, rfl, by omega, Lib.hid hB0⟩
                case round =>
                  clear hB0 hB
                  obtain ⟨i, rfl, hi, hB⟩ := hrel
                  by_cases hgi : i < m
                  · obtain ⟨b2, off2, hAe, hbB2, z0, z1, z2, z3, _⟩ := H2.out.1 i (by have := HA.out.1; omega)
                    have hil : i < l.length := by have := HA.out.1; omega
                    have hRx := HR.out.2.2.2 i hil
                    have hPx := HP.out i hgi
                    obtain ⟨u, hu⟩ : ∃ u : Nat, (am l i).a.f = (u : Int) := ⟨(am l i).a.f.toNat, by have := hRx.1.1; omega⟩
                    obtain ⟨v, hv⟩ : ∃ v : Nat, (am l i).a.t = (v : Int) := ⟨(am l i).a.t.toNat, by have := hRx.1.2.1; omega⟩
                    have hun : u < n0 := by have := hRx.2.1; omega
                    have hvn : v < n0 := by have := hRx.2.2; omega
                    have es : (netE n0 l hb).s i = u := by show (am l i).a.f.toNat = u; rw [hu]; rfl
                    have ed : (netE n0 l hb).d i = v := by show (am l i).a.t.toNat = v; rw [hv]; rfl
                    have hcl := HLt.out.1.cl i hil
                    rw [es, ed] at hcl
                    have hcl : 0 ≤ (lb lab u).1 → IsT ((am l i).a.pass hb (lb lab u).1) → 0 ≤ (lb lab v).1 ∧ (lb lab v).1 ≤ (am l i).a.pass hb (lb lab u).1 := hcl
                    obtain ⟨x, hxm⟩ : ∃ x, am l i = x := ⟨_, rfl⟩
                    rw [hxm] at z0 z1 z2 z3 hPx hcl hu hv
                    subst hAe
                    have y0 := (hB.out.cell (p := ⟨b2, off2 + i * 4, none⟩) hbB2).trans z0
                    have y1 := (hB.out.cell (p := ⟨b2, off2 + i * 4 + 1, none⟩) hbB2).trans z1
                    have y2 := (hB.out.cell (p := ⟨b2, off2 + i * 4 + 2, none⟩) hbB2).trans z2
                    have y3 := (hB.out.cell (p := ⟨b2, off2 + i * 4 + 3, none⟩) hbB2).trans z3
                    obtain ⟨Tu, hTu⟩ : ∃ T, (lb lab u).1 = T := ⟨_, rfl⟩
                    obtain ⟨Tv, hTv⟩ : ∃ T, (lb lab v).1 = T := ⟨_, rfl⟩
                    have HLb := Lib.hid (fun (W : World) (h : Below w2.heap.size w2 W) => And.intro (hTu ▸ ((HLt.out.2.1.below h).get HLt.out.2.2 hun).1) (hTv ▸ ((HLt.out.2.1.below h).get HLt.out.2.2 hvn).1))
                    rw [hTu, hTv] at hcl
                    obtain ⟨zp, hzp⟩ : ∃ z, x.a.pass hb Tu = z := ⟨_, rfl⟩
                    rw [hzp] at hcl
                    have HQ : Hid (∀ W, Below w2.heap.size w2 W → Calls Try.prog 24 #[.agg #[.int .i64 u, .int .i64 v, .slice x.A x.a.lo.length x.c, .slice x.A' x.a.hi.length x.c'], .int .i64 Tu, .bool hb] W fun e w'' => e = .returned (.int .i64 zp) ∧ Below W.heap.size W w'') := Lib.hid (fun W h => by
                      have hh := hPx Tu W h
                      rw [hu, hv] at hh
                      refine hh.mono fun e w' he => ?_
                      obtain ⟨z, rfl, e2, e3⟩ := he
                      rw [e2.out.is, hzp]
                      exact ⟨rfl, e3⟩)
                    rw [hu] at y0
                    rw [hv] at y1
                    have HC := Lib.hid hcl
                    have HRT : Hid (∀ W r, r = decide (0 ≤ zp ∧ zp ≤ 1048576) → Calls Try.prog 23 #[.int .i64 zp] W fun e w' => e = .returned (.bool r) ∧ W = w') := Lib.hid (fun W r hr => rTime_any zp W r hr)
                    clear hPx hcl hRx es ed hzp hTu hTv z0 z1 z2 z3 hil hu hv hxm
                    obtain ⟨n1, hn1⟩ : ∃ X, x.a.lo.length = X := ⟨_, rfl⟩
                    obtain ⟨n2, hn2⟩ : ∃ X, x.a.hi.length = X := ⟨_, rfl⟩
                    obtain ⟨A1, hA1⟩ : ∃ X, x.A = X := ⟨_, rfl⟩
                    obtain ⟨A2, hA2⟩ : ∃ X, x.A' = X := ⟨_, rfl⟩
                    obtain ⟨p1, hp1⟩ : ∃ X, x.c = X := ⟨_, rfl⟩
                    obtain ⟨p2, hp2⟩ : ∃ X, x.c' = X := ⟨_, rfl⟩
                    rw [hn1, hA1, hp1] at y2 HQ
                    rw [hn2, hA2, hp2] at y3 HQ
                    clear hn1 hn2 hA1 hA2 hp1 hp2
                    have hB2 := hB.out.alloc hB.out.size (.cells #[.int .i64 u, .int .i64 v, (.slice A1 n1 p1), (.slice A2 n2 p2)] 39)
                    have bk2 := Blk.new wr 39 #[.int .i64 u, .int .i64 v, (.slice A1 n1 p1), (.slice A2 n2 p2)]
                    go_upto_region 32 with fail
                    obtain ⟨W2, hW2⟩ : ∃ W2, wr.alloc (.cells #[.int .i64 u, .int .i64 v, (.slice A1 n1 p1), (.slice A2 n2 p2)] 39) = W2 := ⟨_, rfl⟩
                    rw [hW2] at bk2 hB2 ⊢
                    clear hW2 y0 y1 y2 y3
                    obtain ⟨gb, hgb⟩ : ∃ g, wr.heap.size = g := ⟨_, rfl⟩
                    rw [hgb] at bk2 ⊢
                    clear hgb
                    have HB2 := Lib.hid (And.intro hB2 bk2)
                    have c0 := (HLb.out W2 hB2).1
                    have q0 : W2.cell? ⟨gb, 0, none⟩ = some (.int .i64 u) := bk2.cell 0
                    have q1 : W2.cell? ⟨gb, 1, none⟩ = some (.int .i64 v) := bk2.cell 1
                    have q2 : W2.cell? ⟨gb, 2, none⟩ = some (.slice A1 n1 p1) := bk2.cell 2
                    have q3 : W2.cell? ⟨gb, 3, none⟩ = some (.slice A2 n2 p2) := bk2.cell 3
                    clear hB2 bk2
                    by_cases hneg : Tu < 0
                    · go_wp2_with fail
                      go_roundw
                      case rel => exact ⟨i + 1, rfl, by omega, Lib.hid HB2.out.1⟩
                      case measure => simp [intOf]; omega
                    · go_upto_region 33 with fail
                      have r0 := cell_regrown q0
                      have r1 := cell_regrown q1
                      have r2 := cell_regrown q2
                      have r3 := cell_regrown q3
                      have r4 := cell_regrown c0
                      have HQ2 : Hid (∀ xx os, Calls Try.prog 24 #[.agg #[.int .i64 u, .int .i64 v, (.slice A1 n1 p1), (.slice A2 n2 p2)], .int .i64 Tu, .bool hb] (grow (redrawn W2 xx) os) fun e w'' => e = .returned (.int .i64 zp) ∧ ∃ p : Regrown, w'' = grow (redrawn W2 p.d) p.os) := Lib.hid (fun xx os => Calls.regrown_of (HQ.out _ (HB2.out.1.trans ((below_regrown W2 xx os).mono HB2.out.1.size))))
                      refine wp_region_quiet_below (by kernel_rfl) (by kernel_rfl) ?_
                      repeat (quiet_step (first | (go_at_call 24; with_reducible exact HQ2.out _ _)))
                      refine wpQuiet_nil ?_
                      intro w6 hw6
                      have hB6 : Below W2.heap.size W2 w6 := by obtain ⟨p, rfl⟩ := hw6; exact below_regrown W2 p.d p.os
                      have HB6 := Lib.hid (HB2.out.1.trans (hB6.mono HB2.out.1.size))
                      have k6 := HB2.out.2.below hB6 HB2.out.2.lt
                      have q1 : w6.cell? ⟨gb, 1, none⟩ = some (.int .i64 v) := k6.cell 1
                      have d1 := (HLb.out w6 HB6.out).2
                      clear hw6 hB6 k6 r0 r1 r2 r3 r4 HQ2 HQ q0 q2 q3 c0 HLb
                      obtain ⟨r, hr⟩ : ∃ r, r = decide (0 ≤ zp ∧ zp ≤ 1048576) := ⟨_, rfl⟩
                      have HRr := Lib.hid (HRT.out w6 r hr)
                      clear HRT
                      cases r with
                      | false =>
                        clear hr
                        go_wp2_with fail
                        refine HRr.out.mono ?_
                        rintro e w7 ⟨rfl, rfl⟩
                        go_wp2_with fail
                        go_roundw
                        case rel => exact ⟨i + 1, rfl, by omega, HB6⟩
                        case measure => simp [intOf]; omega
                      | true =>
                        obtain ⟨g1, g2⟩ := HC.out (by omega) (of_decide_eq_true hr.symm)
                        clear hr
                        go_wp2_with fail
                        refine HRr.out.mono ?_
                        rintro e w7 ⟨rfl, rfl⟩
                        go_wp2_with fail
                        go_roundw
                        case rel => exact ⟨i + 1, rfl, by omega, HB6⟩
                        case measure => simp [intOf]; omega
                  · have : i = m := by omega
                    subst this
                    go_wp2_with fail
                    go_ret
                    exact ⟨rfl, H2.out.2.trans (hB.out.mono H2.out.2.size)⟩

end Go.Proofs.Yteiojobgjdfdpaa
