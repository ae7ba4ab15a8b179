/- Walks: the reference's Tight. -/
import Derived.Test.YteiojobgjdfdpaaOb
namespace Go.Proofs.Yteiojobgjdfdpaa
open Go.RowKit Go.Sort

set_option maxRecDepth 100000 in
set_option maxHeartbeats 8000000 in
theorem tight12_any (l : List Am) (A : Option Addr) (m c : Nat) (b : Bool) (L : Option Addr) (n c2 : Nat) (lab : List Lb) (w : World) (hl : l.length = m) (hA : ArcsAt w.heap.size w A l) (hR : RRight n l) (hn : lab.length = n) (hL : LbsAt w.heap.size w L lab) (r : Bool) (hr : r = true ↔ TightP l b lab) :
    Calls Try.prog 63 #[.slice A m c, .bool b, .slice L n c2] w fun e w' => e = .returned (.bool r) ∧ Below w.heap.size w w' := by
  have hm2 : m ≤ 20000 := by have := hR.2.2.1; omega
  have HA := Lib.hid (And.intro hl hA)
  have HL := Lib.hid (And.intro hn hL)
  have HRt := Lib.hid hR
  have hr0 : ¬ TightP l b lab → r = false := fun h => by
    cases r with
    | false => rfl
    | true => exact absurd (hr.1 rfl) h
  have HR := Lib.hid (And.intro hr hr0)
  clear hl hA hR hn hL hr hr0
  go_enter Try.func63, Try.ntmps63
  go_wp2_with fail
  go_loopw [7] (fun iv wr => ∃ i : Nat, iv = .int .i64 i ∧ i ≤ m ∧ Hid (∀ k, k < i → IsT ((am l k).a.pass b (lb lab (am l k).a.f.toNat).1) → (lb lab (am l k).a.t.toNat).1 ≠ -1 ∧ (lb lab (am l k).a.t.toNat).1 ≤ (am l k).a.pass b (lb lab (am l k).a.f.toNat).1) ∧ Hid (Below w.heap.size w wr)) (fun iv _ => m - (intOf iv).toNat)
  case atStart => exact ⟨0, rfl, by omega, Lib.hid (fun k hk => by omega), Lib.hid (Below.refl _ _)⟩
  case round =>
    obtain ⟨i, rfl, hi, hK, hB⟩ := hrel
    by_cases hgo : i < m
    · have hil : i < l.length := by have := HA.out.1; omega
      have hAr := (HA.out.2.below hB.out).more hB.out.size
      have hLr := (HL.out.2.below hB.out).more hB.out.size
      obtain ⟨b2, off2, hAe, hbB2, z0, z1, z2, z3, _⟩ := hAr i hil
      subst hAe
      have hRx := HRt.out.2.2.2 i hil
      obtain ⟨u, hu⟩ : ∃ u : Nat, (am l i).a.f = (u : Int) := ⟨(am l i).a.f.toNat, by have := hRx.1.1; omega⟩
      obtain ⟨v, hv⟩ : ∃ v : Nat, (am l i).a.t = (v : Int) := ⟨(am l i).a.t.toNat, by have := hRx.1.2.1; omega⟩
      have hun : u < n := by have := hRx.2.1; omega
      have hvn : v < n := by have := hRx.2.2; omega
      have hMx := hAr.m (Nat.le_refl _) hil
      obtain ⟨gl, ol, hLe, hgl, d0, d1⟩ := hLr u (by have := HL.out.1; omega)
      obtain ⟨gl', ol', hLe', hgl', f0, _⟩ := hLr v (by have := HL.out.1; omega)
      subst hLe
      injection hLe' with hLe'
      injection hLe' with e1 e2 _
      subst e1; subst e2
      have hbad : ¬ (IsT ((am l i).a.pass b (lb lab u).1) → (lb lab v).1 ≠ -1 ∧ (lb lab v).1 ≤ (am l i).a.pass b (lb lab u).1) → r = false := fun h => HR.out.2 (fun hh => h (by
        have := hh i hil
        rw [hu, hv, Int.toNat_natCast, Int.toNat_natCast] at this
        exact this))
      have hgood : (IsT ((am l i).a.pass b (lb lab u).1) → (lb lab v).1 ≠ -1 ∧ (lb lab v).1 ≤ (am l i).a.pass b (lb lab u).1) → ∀ k, k < i + 1 → IsT ((am l k).a.pass b (lb lab (am l k).a.f.toNat).1) → (lb lab (am l k).a.t.toNat).1 ≠ -1 ∧ (lb lab (am l k).a.t.toNat).1 ≤ (am l k).a.pass b (lb lab (am l k).a.f.toNat).1 := fun h k hk => by
        by_cases e : k < i
        · exact hK.out k e
        · have : k = i := by omega
          subst this
          rw [hu, hv, Int.toNat_natCast, Int.toNat_natCast]
          exact h
      have hout : (lb lab u).1 = -1 → (am l i).a.pass b (lb lab u).1 = -1 := fun h => pass_out1 (by rw [h]; exact fun h => absurd h.1 (by decide))
      have HQ := Lib.hid (fun W (hb : Below wr.heap.size wr W) => rpass_is (am l i) b (lb lab u).1 W (hMx.below hb))
      obtain ⟨Tv, hTv⟩ : ∃ T, (lb lab v).1 = T := ⟨_, rfl⟩
      obtain ⟨Tu, hTu⟩ : ∃ T, (lb lab u).1 = T := ⟨_, rfl⟩
      obtain ⟨Bu, hBu⟩ : ∃ T, (lb lab u).2 = T := ⟨_, rfl⟩
      rw [hTv] at f0 hbad hgood
      rw [hTu] at d0 hbad hgood hout HQ
      rw [hBu] at d1
      obtain ⟨zp, hzp⟩ : ∃ z, (am l i).a.pass b Tu = z := ⟨_, rfl⟩
      rw [hzp] at hbad hgood hout HQ
      have HBad := Lib.hid hbad; clear hbad
      have HGood := Lib.hid hgood; clear hgood
      have HOut := Lib.hid hout; clear hout
      clear hRx hzp hTv hTu hBu hMx hAr hLr hil
      obtain ⟨x, hx⟩ : ∃ x, am l i = x := ⟨_, rfl⟩
      rw [hx] at HQ z0 z1 z2 z3 hu hv
      clear hx
      obtain ⟨⟨f, t2, lo2, hi2⟩, A1, p1, A2, p2⟩ := x
      simp only [Am.v] at HQ z0 z1 z2 z3 hu hv
      obtain ⟨n1, hn1⟩ : ∃ n1, lo2.length = n1 := ⟨_, rfl⟩
      obtain ⟨n2, hn2⟩ : ∃ n2, hi2.length = n2 := ⟨_, rfl⟩
      rw [hn1] at z2 HQ
      rw [hn2] at z3 HQ
      clear hn1 hn2
      subst hu; subst hv
      have bk := Blk.new wr 37 #[.int .i64 Tu, .int .i64 Bu]
      have hB2 := (Below.refl wr.heap.size wr).alloc (Nat.le_refl _) (.cells #[.int .i64 Tu, .int .i64 Bu] 37)
      go_upto_region 5 with fail
      obtain ⟨W2, hW2⟩ : ∃ W2, wr.alloc (.cells #[.int .i64 Tu, .int .i64 Bu] 37) = W2 := ⟨_, rfl⟩
      rw [hW2] at bk hB2 ⊢
      clear hW2
      have z0 := (hB2.cell (p := ⟨b2, off2 + i * 4, none⟩) hbB2).trans z0
      have z1 := (hB2.cell (p := ⟨b2, off2 + i * 4 + 1, none⟩) hbB2).trans z1
      have z2 := (hB2.cell (p := ⟨b2, off2 + i * 4 + 2, none⟩) hbB2).trans z2
      have z3 := (hB2.cell (p := ⟨b2, off2 + i * 4 + 3, none⟩) hbB2).trans z3
      have f0 := (hB2.cell (p := ⟨gl, ol + v * 2, none⟩) hgl).trans f0
      have d0 : W2.cell? ⟨wr.heap.size, 0, none⟩ = some (.int .i64 Tu) := bk.cell 0
      have HB2 := Lib.hid (And.intro (hB.out.trans (hB2.mono hB.out.size)) (And.intro hB2 bk))
      clear hB2 bk d1
      by_cases hT1 : Tu = -1
      · have HG := Lib.hid (HGood.out (fun h => by rw [HOut.out hT1] at h; exact absurd h.1 (by decide)))
        subst hT1
        clear z0 z1 z2 z3
        go_wp2_with fail
        go_roundw
        case rel => exact ⟨i + 1, rfl, by omega, HG, Lib.hid HB2.out.1⟩
        case measure => simp [intOf]; omega
      · have hT2 : (Tu == -1) = false := by simpa using hT1
        go_upto_region 6 with fail
        have y0 := cell_regrown z0
        have y1 := cell_regrown z1
        have y2 := cell_regrown z2
        have y3 := cell_regrown z3
        have y4 := cell_regrown d0
        have HQ2 : Hid (∀ xx os, Calls Try.prog 42 #[.agg #[.int .i64 u, .int .i64 v, .slice A1 n1 p1, .slice A2 n2 p2], .int .i64 Tu, .bool b] (grow (redrawn W2 xx) os) fun e w'' => e = .returned (.int .i64 zp) ∧ ∃ p : Regrown, w'' = grow (redrawn W2 p.d) p.os) := Lib.hid (fun xx os => Calls.regrown_of (HQ.out _ (HB2.out.2.1.trans ((below_regrown W2 xx os).mono HB2.out.2.1.size))))
        refine wp_region_quiet_below (by kernel_rfl) (by kernel_rfl) ?_
        repeat (quiet_step (first | (go_at_call 42; with_reducible exact HQ2.out _ _)))
        refine wpQuiet_nil ?_
        intro w6 hw6
        have hB6 : Below W2.heap.size W2 w6 := by obtain ⟨p, rfl⟩ := hw6; exact below_regrown W2 p.d p.os
        have z1 := (hB6.cell (p := ⟨b2, off2 + i * 4 + 1, none⟩) (block_lt_of_cell z1)).trans z1
        have f0 := (hB6.cell (p := ⟨gl, ol + v * 2, none⟩) (block_lt_of_cell f0)).trans f0
        have HB6 := Lib.hid (HB2.out.1.trans (hB6.mono HB2.out.1.size))
        clear hw6 hB6 y0 y1 y2 y3 y4 z0 z2 z3 HQ2 HQ d0
        obtain ⟨r1, hr1⟩ : ∃ r, r = decide (0 ≤ zp ∧ zp ≤ 1048576) := ⟨_, rfl⟩
        have HT := Lib.hid (r12Time_any zp w6 r1 hr1)
        cases r1 with
        | false =>
          have HG := Lib.hid (HGood.out (fun h => absurd h (of_decide_eq_false hr1.symm)))
          clear hr1
          go_wp2_with fail
          refine HT.out.mono ?_
          rintro e w3 ⟨rfl, rfl⟩
          go_wp2_with fail
          go_roundw
          case rel => exact ⟨i + 1, rfl, by omega, HG, HB6⟩
          case measure => simp [intOf]; omega
        | true =>
          have hT := of_decide_eq_true hr1.symm
          have HTT := Lib.hid (show IsT zp from hT)
          clear hr1 hT
          by_cases hv1 : Tv = -1
          · have hrf := HBad.out (fun h => (h HTT.out).1 hv1)
            subst hrf
            subst hv1
            go_wp2_with fail
            refine HT.out.mono ?_
            rintro e w3 ⟨rfl, rfl⟩
            go_wp2_with fail
            go_ret
            exact ⟨by rfl, HB6.out⟩
          · have hv2 : (Tv == -1) = false := by simpa using hv1
            by_cases hc : zp < Tv
            · have hrf := HBad.out (fun h => by have := (h HTT.out).2; omega)
              subst hrf
              go_wp2_with fail
              refine HT.out.mono ?_
              rintro e w3 ⟨rfl, rfl⟩
              go_wp2_with fail
              go_ret
              exact ⟨by rfl, HB6.out⟩
            · have HG := Lib.hid (HGood.out (fun h => ⟨hv1, by omega⟩))
              go_wp2_with fail
              refine HT.out.mono ?_
              rintro e w3 ⟨rfl, rfl⟩
              go_wp2_with fail
              go_roundw
              case rel => exact ⟨i + 1, rfl, by omega, HG, HB6⟩
              case measure => simp [intOf]; omega
    · have e : i = m := by omega
      subst e
      have hrt := HR.out.1.2 (fun k hk => hK.out k (by have := HA.out.1; omega))
      subst hrt
      go_wp2_with fail
      go_ret
      exact ⟨by rfl, hB.out⟩

end Go.Proofs.Yteiojobgjdfdpaa
