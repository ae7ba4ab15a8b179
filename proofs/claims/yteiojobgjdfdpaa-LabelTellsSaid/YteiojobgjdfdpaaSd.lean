/- Walks: the claim's isReached, arrival, follows, isTight. -/
import Derived.Test.YteiojobgjdfdpaaSc
namespace Go.Proofs.Yteiojobgjdfdpaa
open Go.RowKit Go.Sort

/-- A claim as it lies. -/
abbrev clv (A : Option Addr) (m c : Nat) (src : Nat) (t : Int) (b : Bool) (L : Option Addr) (n c2 : Nat) : Value := .agg #[.slice A m c, .int .i64 src, .int .i64 t, .bool b, .slice L n c2]

set_option maxRecDepth 100000 in
set_option maxHeartbeats 4000000 in
theorem isReached_any (A : Option Addr) (m c src : Nat) (t : Int) (b : Bool) (L : Option Addr) (n c2 : Nat) (lab : List Lb) (v : Nat) (w : World) (hn : lab.length = n) (hL : LbsAt w.heap.size w L lab) (hv : v < n) (r : Bool) (hr : r = decide ((lb lab v).1 ≠ -1)) :
    Calls Try.prog 76 #[clv A m c src t b L n c2, .int .i64 v] w fun e w' => e = .returned (.bool r) ∧ Below w.heap.size w w' := by
  obtain ⟨g, off, rfl, hg, k0, k1⟩ := hL v (by omega)
  obtain ⟨x, hx⟩ : ∃ x, (lb lab v).1 = x := ⟨_, rfl⟩
  rw [hx] at k0 hr
  clear hx k1 hn hL
  have hB : Below w.heap.size w (w.alloc (.cells #[.slice A m c, .int .i64 src, .int .i64 t, .bool b, .slice (some ⟨g, off, none⟩) n c2] 79)) := (Below.refl _ _).alloc (Nat.le_refl _) _
  have HB := Lib.hid hB; clear hB
  have HR := Lib.hid hr; clear hr
  go_enter Try.func76, Try.ntmps76
  by_cases h : x = -1
  · subst h
    go_wp2_with fail
    go_ret
    exact ⟨by rw [HR.out]; rfl, HB.out⟩
  · have h2 : (x != -1) = true := by simpa using h
    have h3 : r = true := by rw [HR.out]; exact decide_eq_true h
    subst h3
    clear HR
    go_wp2_with fail
    go_ret
    exact ⟨by rfl, HB.out⟩

set_option maxRecDepth 100000 in
set_option maxHeartbeats 8000000 in
theorem arrival_any (A : Option Addr) (m c src : Nat) (t : Int) (b : Bool) (L : Option Addr) (n c2 : Nat) (lab : List Lb) (x : Am) (u : Nat) (w : World) (hu : x.a.f = (u : Int)) (hun : u < n) (hn : lab.length = n) (hL : LbsAt w.heap.size w L lab) (hM : ArcM w x.a x.A x.A') :
    Calls Try.prog 75 #[clv A m c src t b L n c2, x.v] w fun e w' => e = .returned (.int .i64 (x.a.pass b (lb lab u).1)) ∧ Below w.heap.size w w' := by
  obtain ⟨g, off, rfl, hg, k0, _⟩ := hL u (by omega)
  obtain ⟨T, hT⟩ : ∃ x, (lb lab u).1 = x := ⟨_, rfl⟩
  rw [hT] at k0 ⊢
  clear hT hn hL
  have HQ : Hid (∀ W, Below w.heap.size w W → Calls Try.prog 24 #[x.v, .int .i64 T, .bool b] W fun e w'' => e = .returned (.int .i64 (x.a.pass b T)) ∧ Below W.heap.size W w'') := Lib.hid (fun W h => by
    refine (pass_any x.a x.A x.A' x.c x.c' b T W (hM.below h)).mono fun e w' he => ?_
    obtain ⟨z, rfl, e2, e3⟩ := he
    rw [e2.out.is]
    exact ⟨rfl, e3⟩)
  obtain ⟨z, hz⟩ : ∃ z, x.a.pass b T = z := ⟨_, rfl⟩
  rw [hz] at HQ ⊢
  clear hz hM
  obtain ⟨⟨f, t2, lo2, hi2⟩, A1, c1, A2, c2'⟩ := x
  simp only [Am.v] at HQ hu ⊢
  obtain ⟨n1, hn1⟩ : ∃ n1, lo2.length = n1 := ⟨_, rfl⟩
  obtain ⟨n2, hn2⟩ : ∃ n2, hi2.length = n2 := ⟨_, rfl⟩
  rw [hn1, hn2] at HQ ⊢
  clear hn1 hn2
  subst hu
  have hB1 := ((Below.refl w.heap.size w).alloc (Nat.le_refl _) (.cells #[.slice A m c, .int .i64 src, .int .i64 t, .bool b, .slice (some ⟨g, off, none⟩) n c2] 79)).alloc (by simp) (.cells #[.int .i64 u, .int .i64 t2, .slice A1 n1 c1, .slice A2 n2 c2'] 39)
  have j1 := (Blk.new w 79 #[.slice A m c, .int .i64 src, .int .i64 t, .bool b, .slice (some ⟨g, off, none⟩) n c2]).alloc (.cells #[.int .i64 u, .int .i64 t2, .slice A1 n1 c1, .slice A2 n2 c2'] 39)
  have j2 := Blk.new (w.alloc (.cells #[.slice A m c, .int .i64 src, .int .i64 t, .bool b, .slice (some ⟨g, off, none⟩) n c2] 79)) 39 #[.int .i64 u, .int .i64 t2, .slice A1 n1 c1, .slice A2 n2 c2']
  rw [World.size_alloc] at j2
  go_enter Try.func75, Try.ntmps75
  go_upto_region 1 with fail
  obtain ⟨W, hW⟩ : ∃ W, (w.alloc (.cells #[.slice A m c, .int .i64 src, .int .i64 t, .bool b, .slice (some ⟨g, off, none⟩) n c2] 79)).alloc (.cells #[.int .i64 u, .int .i64 t2, .slice A1 n1 c1, .slice A2 n2 c2'] 39) = W := ⟨_, rfl⟩
  rw [hW] at hB1 j1 j2 ⊢
  clear hW
  have HB := Lib.hid hB1
  have x0 := cell_regrown ((hB1.cell (p := ⟨g, off + u * 2, none⟩) hg).trans k0)
  have x1 := cell_regrown (show W.cell? ⟨w.heap.size, 4, none⟩ = some (.slice (some ⟨g, off, none⟩) n c2) from j1.cell 4)
  have x2 := cell_regrown (show W.cell? ⟨w.heap.size, 3, none⟩ = some (.bool b) from j1.cell 3)
  have y0 := cell_regrown (show W.cell? ⟨w.heap.size + 1, 0, none⟩ = some (.int .i64 u) from j2.cell 0)
  have y1 := cell_regrown (show W.cell? ⟨w.heap.size + 1, 1, none⟩ = some (.int .i64 t2) from j2.cell 1)
  have y2 := cell_regrown (show W.cell? ⟨w.heap.size + 1, 2, none⟩ = some (.slice A1 n1 c1) from j2.cell 2)
  have y3 := cell_regrown (show W.cell? ⟨w.heap.size + 1, 3, none⟩ = some (.slice A2 n2 c2') from j2.cell 3)
  have Q : Hid (∀ xx os, Calls Try.prog 24 #[.agg #[.int .i64 u, .int .i64 t2, .slice A1 n1 c1, .slice A2 n2 c2'], .int .i64 T, .bool b] (grow (redrawn W xx) os) fun e w'' => e = .returned (.int .i64 z) ∧ ∃ p : Regrown, w'' = grow (redrawn W p.d) p.os) := Lib.hid (fun xx os => Calls.regrown_of (HQ.out _ (HB.out.trans ((below_regrown W xx os).mono HB.out.size))))
  clear HQ hB1 j1 j2 k0
  refine wp_region_quiet_below (by kernel_rfl) (by kernel_rfl) ?_
  repeat (quiet_step (first | (go_at_call 24; with_reducible exact Q.out _ _)))
  refine wpQuiet_nil ?_
  intro w6 hw6
  have HB6 := Lib.hid (show Below w.heap.size w w6 by obtain ⟨p, rfl⟩ := hw6; exact HB.out.trans ((below_regrown W p.d p.os).mono HB.out.size))
  clear hw6 x0 x1 x2 y0 y1 y2 y3 Q
  go_wp2_with fail
  go_ret
  exact ⟨by rfl, HB6.out⟩

set_option maxRecDepth 100000 in
set_option maxHeartbeats 8000000 in
theorem isTight_any (l : List Am) (A : Option Addr) (m c src : Nat) (t : Int) (b : Bool) (L : Option Addr) (n c2 : Nat) (lab : List Lb) (w : World) (hl : l.length = m) (hA : ArcsAt w.heap.size w A l) (hR : RRight n l) (hn : lab.length = n) (hL : LbsAt w.heap.size w L lab) (r : Bool) (hr : r = true ↔ TightP l b lab) :
    Calls Try.prog 61 #[clv A m c src t b L n c2] w fun e w' => e = .returned (.bool r) ∧ Below w.heap.size w w' := by
  have hm2 : m ≤ 20000 := by have := hR.2.2.1; omega
  have HA := Lib.hid (And.intro hl hA)
  have HL := Lib.hid (And.intro hn hL)
  have HRt := Lib.hid hR
  have hr0 : ¬ TightP l b lab → r = false := fun h => by
    cases r with
    | false => rfl
    | true => exact absurd (hr.1 rfl) h
  have HR := Lib.hid (And.intro hr hr0)
  clear hl hA hR hn hL hr hr0
  have HK := Lib.hid (Blk.new w 79 #[.slice A m c, .int .i64 src, .int .i64 t, .bool b, .slice L n c2])
  have HB := Lib.hid ((Below.refl w.heap.size w).alloc (Nat.le_refl _) (.cells #[.slice A m c, .int .i64 src, .int .i64 t, .bool b, .slice L n c2] 79))
  go_enter Try.func61, Try.ntmps61
  go_wp2_with fail
  obtain ⟨W0, hW0⟩ : ∃ W, w.alloc (.cells #[.slice A m c, .int .i64 src, .int .i64 t, .bool b, .slice L n c2] 79) = W := ⟨_, rfl⟩
  rw [hW0] at HK HB ⊢
  clear hW0
  obtain ⟨C, hC⟩ : ∃ C, w.heap.size = C := ⟨_, rfl⟩
  rw [hC] at HK HB HA HL ⊢
  go_loopw [9] (fun iv wr => ∃ i : Nat, iv = .int .i64 i ∧ i ≤ m ∧ Hid (∀ k, k < i → IsT ((am l k).a.pass b (lb lab (am l k).a.f.toNat).1) → (lb lab (am l k).a.t.toNat).1 ≠ -1 ∧ (lb lab (am l k).a.t.toNat).1 ≤ (am l k).a.pass b (lb lab (am l k).a.f.toNat).1) ∧ Hid (Below (C + 1) W0 wr)) (fun iv _ => m - (intOf iv).toNat)
  case atStart => exact ⟨0, rfl, by omega, Lib.hid (fun k hk => by omega), Lib.hid (Below.refl _ _)⟩
  case round =>
    obtain ⟨i, rfl, hi, hK, hB⟩ := hrel
    have HC := Lib.hid hC; clear hC
    have hKr := HK.out.below hB.out (by omega)
    have hBr : Below C w wr := HB.out.trans (hB.out.mono (by omega))
    by_cases hgo : i < m
    · have hil : i < l.length := by have := HA.out.1; omega
      have hAr := (HA.out.2.below hBr).more (show C ≤ wr.heap.size by have := hKr.lt; omega)
      have hLr := (HL.out.2.below hBr).more (show C ≤ wr.heap.size by have := hKr.lt; omega)
      obtain ⟨b2, off2, hAe, hbB2, z0, z1, z2, z3, _⟩ := hAr i hil
      subst hAe
      have hRx := HRt.out.2.2.2 i hil
      obtain ⟨u, hu⟩ : ∃ u : Nat, (am l i).a.f = (u : Int) := ⟨(am l i).a.f.toNat, by have := hRx.1.1; omega⟩
      obtain ⟨v, hv⟩ : ∃ v : Nat, (am l i).a.t = (v : Int) := ⟨(am l i).a.t.toNat, by have := hRx.1.2.1; omega⟩
      have hun : u < n := by have := hRx.2.1; omega
      have hvn : v < n := by have := hRx.2.2; omega
      have hMx := hAr.m (Nat.le_refl _) hil
      have HQ := Lib.hid (fun W (hb : Below wr.heap.size wr W) => arrival_any (some ⟨b2, off2, none⟩) m c src t b L n c2 lab (am l i) u W hu hun HL.out.1 ((hLr.below hb).more hb.size) (hMx.below hb))
      have hbad : ¬ (IsT ((am l i).a.pass b (lb lab u).1) → (lb lab v).1 ≠ -1 ∧ (lb lab v).1 ≤ (am l i).a.pass b (lb lab u).1) → r = false := fun h => HR.out.2 (fun hh => h (by
        have := hh i hil
        rw [hu, hv, Int.toNat_natCast, Int.toNat_natCast] at this
        exact this))
      have hgood : (IsT ((am l i).a.pass b (lb lab u).1) → (lb lab v).1 ≠ -1 ∧ (lb lab v).1 ≤ (am l i).a.pass b (lb lab u).1) → ∀ k, k < i + 1 → IsT ((am l k).a.pass b (lb lab (am l k).a.f.toNat).1) → (lb lab (am l k).a.t.toNat).1 ≠ -1 ∧ (lb lab (am l k).a.t.toNat).1 ≤ (am l k).a.pass b (lb lab (am l k).a.f.toNat).1 := fun h k hk => by
        by_cases e : k < i
        · exact hK.out k e
        · have : k = i := by omega
          subst this
          rw [hu, hv, Int.toNat_natCast, Int.toNat_natCast]
          exact h
      obtain ⟨r2, hr2⟩ : ∃ r2, r2 = decide ((lb lab v).1 ≠ -1) := ⟨_, rfl⟩
      have HRe := Lib.hid (fun W (hb : Below wr.heap.size wr W) => isReached_any (some ⟨b2, off2, none⟩) m c src t b L n c2 lab v W HL.out.1 ((hLr.below hb).more hb.size) hvn r2 hr2)
      obtain ⟨gl, ol, hLe, hgl, d0, _⟩ := hLr v (by have := HL.out.1; omega)
      subst hLe
      obtain ⟨Tv, hTv⟩ : ∃ T, (lb lab v).1 = T := ⟨_, rfl⟩
      rw [hTv] at d0 hbad hgood hr2
      obtain ⟨zp, hzp⟩ : ∃ z, (am l i).a.pass b (lb lab u).1 = z := ⟨_, rfl⟩
      rw [hzp] at hbad hgood HQ
      have HBad := Lib.hid hbad; clear hbad
      have HGood := Lib.hid hgood; clear hgood
      clear hRx hzp hTv hMx hAr hLr hil
      obtain ⟨x, hx⟩ : ∃ x, am l i = x := ⟨_, rfl⟩
      rw [hx] at HQ z0 z1 z2 z3 hu hv
      clear hx
      obtain ⟨⟨f, t2, lo2, hi2⟩, A1, p1, A2, p2⟩ := x
      simp only [Am.v] at HQ z0 z1 z2 z3 hu hv
      obtain ⟨n1, hn1⟩ : ∃ n1, lo2.length = n1 := ⟨_, rfl⟩
      obtain ⟨n2, hn2⟩ : ∃ n2, hi2.length = n2 := ⟨_, rfl⟩
      rw [hn1] at z2 HQ
      rw [hn2] at z3 HQ
      clear hn1 hn2
      subst hu; subst hv
      have q0 : wr.cell? ⟨C, 0, none⟩ = some (.slice (some ⟨b2, off2, none⟩) m c) := hKr.cell 0
      have q1 : wr.cell? ⟨C, 1, none⟩ = some (.int .i64 src) := hKr.cell 1
      have q2 : wr.cell? ⟨C, 2, none⟩ = some (.int .i64 t) := hKr.cell 2
      have q3 : wr.cell? ⟨C, 3, none⟩ = some (.bool b) := hKr.cell 3
      have q4 : wr.cell? ⟨C, 4, none⟩ = some (.slice (some ⟨gl, ol, none⟩) n c2) := hKr.cell 4
      have hkl := hKr.lt
      have bk := Blk.new wr 39 #[.int .i64 u, .int .i64 v, .slice A1 n1 p1, .slice A2 n2 p2]
      have hB2 := (Below.refl wr.heap.size wr).alloc (Nat.le_refl _) (.cells #[.int .i64 u, .int .i64 v, .slice A1 n1 p1, .slice A2 n2 p2] 39)
      have HB2 := Lib.hid (And.intro hB2 (And.intro bk (And.intro hKr hgl))); clear hB2 bk hKr
      go_wp2_with fail
      refine (HQ.out _ HB2.out.1).mono ?_
      rintro e w2 ⟨rfl, hb2⟩
      have hBw : Below wr.heap.size wr w2 := HB2.out.1.trans (hb2.mono HB2.out.1.size)
      have bk2 := HB2.out.2.1.below hb2 HB2.out.2.1.lt
      have hK2 := HB2.out.2.2.1.below hBw hkl
      have y0 : w2.cell? ⟨wr.heap.size, 0, none⟩ = some (.int .i64 u) := bk2.cell 0
      have y1 : w2.cell? ⟨wr.heap.size, 1, none⟩ = some (.int .i64 v) := bk2.cell 1
      have d1 := (hBw.cell (p := ⟨gl, ol + v * 2, none⟩) HB2.out.2.2.2).trans d0
      clear q0 q1 q2 q3 q4
      have q0 : w2.cell? ⟨C, 0, none⟩ = some (.slice (some ⟨b2, off2, none⟩) m c) := hK2.cell 0
      have q1 : w2.cell? ⟨C, 1, none⟩ = some (.int .i64 src) := hK2.cell 1
      have q2 : w2.cell? ⟨C, 2, none⟩ = some (.int .i64 t) := hK2.cell 2
      have q3 : w2.cell? ⟨C, 3, none⟩ = some (.bool b) := hK2.cell 3
      have q4 : w2.cell? ⟨C, 4, none⟩ = some (.slice (some ⟨gl, ol, none⟩) n c2) := hK2.cell 4
      have HB3 := Lib.hid (And.intro hBw (And.intro bk2 hK2))
      clear hb2 hBw bk2 hK2 HB2 z0 z1 z2 z3 d0
      have HF : Hid (∀ w3, Below wr.heap.size wr w3 → Below (C + 1) W0 w3) := Lib.hid (fun w3 h => hB.out.trans (h.mono (by omega)))
      obtain ⟨r1, hr1⟩ : ∃ r, r = decide (0 ≤ zp ∧ zp ≤ 1048576) := ⟨_, rfl⟩
      have HT := Lib.hid (lTime_any zp w2 r1 hr1)
      cases r1 with
      | false =>
        have HG := Lib.hid (HGood.out (fun h => absurd h (of_decide_eq_false hr1.symm)))
        clear hr1 hr2
        go_wp2_with fail
        refine HT.out.mono ?_
        rintro e w3 ⟨rfl, rfl⟩
        go_wp2_with fail
        go_roundw
        case rel => exact ⟨i + 1, rfl, by omega, HG, Lib.hid (HF.out _ HB3.out.1)⟩
        case measure => simp [intOf]; omega
      | true =>
        have hT := of_decide_eq_true hr1.symm
        have HTT := Lib.hid (show IsT zp from hT)
        clear hr1 hT
        go_wp2_with fail
        refine HT.out.mono ?_
        rintro e w3 ⟨rfl, rfl⟩
        go_wp2_with fail
        refine (HRe.out _ HB3.out.1).mono ?_
        rintro e w4 ⟨rfl, hb4⟩
        have hBw := HB3.out.1.trans (hb4.mono HB3.out.1.size)
        have bk2 := HB3.out.2.1.below hb4 HB3.out.2.1.lt
        have hK2 := HB3.out.2.2.below hb4 HB3.out.2.2.lt
        have y1 : w4.cell? ⟨wr.heap.size, 1, none⟩ = some (.int .i64 v) := bk2.cell 1
        have d1 := (hb4.cell (p := ⟨gl, ol + v * 2, none⟩) (block_lt_of_cell d1)).trans d1
        clear q0 q1 q2 q3 q4
        have q4 : w4.cell? ⟨C, 4, none⟩ = some (.slice (some ⟨gl, ol, none⟩) n c2) := hK2.cell 4
        have HB4 := Lib.hid hBw
        clear hb4 hBw bk2 hK2 HB3 y0
        cases r2 with
        | false =>
          have hrf := HBad.out (fun h => (h HTT.out).1 (by have := of_decide_eq_false hr2.symm; omega))
          subst hrf
          clear hr2
          go_wp2_with fail
          go_ret
          exact ⟨by rfl, by rw [HC.out]; exact HB.out.trans ((HF.out _ HB4.out).mono (by omega))⟩
        | true =>
          have hne := of_decide_eq_true hr2.symm
          clear hr2
          by_cases hc : zp < Tv
          · have hrf := HBad.out (fun h => by have := (h HTT.out).2; omega)
            subst hrf
            go_wp2_with fail
            go_ret
            exact ⟨by rfl, by rw [HC.out]; exact HB.out.trans ((HF.out _ HB4.out).mono (by omega))⟩
          · have HG := Lib.hid (HGood.out (fun h => ⟨hne, by omega⟩))
            clear hne
            go_wp2_with fail
            go_roundw
            case rel => exact ⟨i + 1, rfl, by omega, HG, Lib.hid (HF.out _ HB4.out)⟩
            case measure => simp [intOf]; omega
    · have e : i = m := by omega
      subst e
      have hrt := HR.out.1.2 (fun k hk => hK.out k (by have := HA.out.1; omega))
      subst hrt
      go_wp2_with fail
      go_ret
      exact ⟨by rfl, by rw [HC.out]; exact hBr⟩

end Go.Proofs.Yteiojobgjdfdpaa
