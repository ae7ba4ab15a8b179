/- Walks: the claim's follows. -/
import Derived.Test.YteiojobgjdfdpaaSd
import Derived.Test.YteiojobgjdfdpaaQw
namespace Go.Proofs.Yteiojobgjdfdpaa
open Go.RowKit Go.Sort

theorem run_eqlL (a b c d0 : Int) (w : World) : (binOp .eql 37 (.agg #[.int .i64 a, .int .i64 b]) (.agg #[.int .i64 c, .int .i64 d0])).run Try.prog w = .ok (.bool (a == c && b == d0)) w := by
  have e1 : ∀ d w, (Op.equalIn (d + 1) 3 (.int .i64 a) (.int .i64 c)).run Try.prog w = .ok (a == c) w := fun d w => run_equalIn_int w d _ _ _ _ _ Try.underlying3
  have e2 : ∀ d w, (Op.equalIn (d + 1) 3 (.int .i64 b) (.int .i64 d0)).run Try.prog w = .ok (b == d0) w := fun d w => run_equalIn_int w d _ _ _ _ _ Try.underlying3
  have hf : (Try.prog.fieldsOf 37).toList.map (fun f => (f.name, f.type, f.offset)) = [("Time", 3, 0), ("By", 3, 1)] := by kernel_rfl
  obtain ⟨f1, f2, hff⟩ : ∃ f1 f2, (Try.prog.fieldsOf 37).toList = [f1, f2] := by
    rcases hL : (Try.prog.fieldsOf 37).toList with _ | ⟨x, _ | ⟨y, _ | ⟨z, t⟩⟩⟩
    · rw [hL] at hf; simp at hf
    · rw [hL] at hf; simp at hf
    · exact ⟨x, y, rfl⟩
    · rw [hL] at hf; simp at hf
  rw [hff] at hf
  simp only [List.map_cons, List.map_nil, List.cons.injEq, Prod.mk.injEq, and_true] at hf
  obtain ⟨⟨n1, t1, o1⟩, n2, t2, o2⟩ := hf
  rw [run_eql_struct, run_equalIn_struct w 9999 _ _ _ (by kernel_rfl) (by kernel_rfl), hff]
  by_cases h : a = c
  · subst h
    simp [Op.eqFields, n1, n2, t1, t2, o1, o2, part, go_sem, e1, e2]
    by_cases hb : b = d0 <;> simp [hb]
  · have h' : (a == c) = false := by simpa using h
    simp [Op.eqFields, n1, n2, t1, t2, o1, o2, part, go_sem, e1, e2, h']

set_option maxRecDepth 100000 in
set_option maxHeartbeats 8000000 in
theorem follows_any (l : List Am) (A : Option Addr) (m c src : Nat) (t : Int) (b : Bool) (L : Option Addr) (n c2 : Nat) (lab : List Lb) (v : Nat) (w : World) (hl : l.length = m) (hA : ArcsAt w.heap.size w A l) (hR : RRight n l) (hn : lab.length = n) (hL : LbsAt w.heap.size w L lab) (hv : v < n) (r : Bool) (hr : r = true ↔ FollP l src t b lab v) :
    Calls Try.prog 73 #[clv A m c src t b L n c2, .int .i64 v] w fun e w' => e = .returned (.bool r) ∧ Below w.heap.size w w' := by
  have hm2 : m ≤ 20000 := by have := hR.2.2.1; omega
  have hr0 : ¬ FollP l src t b lab v → r = false := fun h => by
    cases r with
    | false => rfl
    | true => exact absurd (hr.1 rfl) h
  have HR := Lib.hid (And.intro hr hr0); clear hr hr0
  have HA := Lib.hid (And.intro hl hA)
  have HRt := Lib.hid hR
  have HLs := Lib.hid (And.intro hn hL)
  obtain ⟨g, off, rfl, hg, k0, k1⟩ := hL v (by omega)
  obtain ⟨x, hx⟩ : ∃ x, (lb lab v).1 = x := ⟨_, rfl⟩
  obtain ⟨y, hy⟩ : ∃ y, (lb lab v).2 = y := ⟨_, rfl⟩
  rw [hx] at k0
  rw [hy] at k1
  have HX := Lib.hid (And.intro hx hy)
  have HIR := Lib.hid (fun W (hb : Below w.heap.size w W) => isReached_any A m c src t b (some ⟨g, off, none⟩) n c2 lab v W hn ((hL.below hb).more hb.size) hv (decide (x ≠ -1)) (by rw [hx]))
  clear hl hA hR hn hL hx hy
  have hB1 := ((Below.refl w.heap.size w).alloc (Nat.le_refl _) (.cells #[.slice A m c, .int .i64 src, .int .i64 t, .bool b, .slice (some ⟨g, off, none⟩) n c2] 79)).alloc (by simp) (.cells #[.int .i64 x, .int .i64 y] 37)
  have j1 := (Blk.new w 79 #[.slice A m c, .int .i64 src, .int .i64 t, .bool b, .slice (some ⟨g, off, none⟩) n c2]).alloc (.cells #[.int .i64 x, .int .i64 y] 37)
  have j2 := Blk.new (w.alloc (.cells #[.slice A m c, .int .i64 src, .int .i64 t, .bool b, .slice (some ⟨g, off, none⟩) n c2] 79)) 37 #[.int .i64 x, .int .i64 y]
  rw [World.size_alloc] at j2
  go_enter Try.func73, Try.ntmps73
  go_upto_region 2 with fail
  obtain ⟨W, hW⟩ : ∃ W, (w.alloc (.cells #[.slice A m c, .int .i64 src, .int .i64 t, .bool b, .slice (some ⟨g, off, none⟩) n c2] 79)).alloc (.cells #[.int .i64 x, .int .i64 y] 37) = W := ⟨_, rfl⟩
  rw [hW] at hB1 j1 j2 ⊢
  have hsz : w.heap.size + 2 ≤ W.heap.size := by rw [← hW]; simp
  clear hW k0 k1
  obtain ⟨C, hC⟩ : ∃ C, w.heap.size = C := ⟨_, rfl⟩
  rw [hC] at j1 j2 hsz ⊢
  have HC := Lib.hid hC; clear hC
  have hbb := hB1
  have HB := Lib.hid (And.intro hB1 (And.intro j1 j2))
  have a0 : W.cell? ⟨C, 0, none⟩ = some (.slice A m c) := j1.cell 0
  have a1 : W.cell? ⟨C, 1, none⟩ = some (.int .i64 src) := j1.cell 1
  have a2 : W.cell? ⟨C, 2, none⟩ = some (.int .i64 t) := j1.cell 2
  have a3 : W.cell? ⟨C, 3, none⟩ = some (.bool b) := j1.cell 3
  have a4 : W.cell? ⟨C, 4, none⟩ = some (.slice (some ⟨g, off, none⟩) n c2) := j1.cell 4
  have d0 : W.cell? ⟨C + 1, 0, none⟩ = some (.int .i64 x) := j2.cell 0
  have d1 : W.cell? ⟨C + 1, 1, none⟩ = some (.int .i64 y) := j2.cell 1
  clear hB1 j1 j2
  by_cases hs : v = src
  · subst hs
    have h1 : FollP l v t b lab v ↔ (x = t ∧ y = -1) := by
      constructor
      · rintro (⟨_, h2⟩ | ⟨h1, _⟩ | ⟨h1, _⟩)
        · rw [← HX.out.1, ← HX.out.2, h2]; exact ⟨rfl, rfl⟩
        · exact absurd rfl h1
        · exact absurd rfl h1
      · rintro ⟨h1, h2⟩
        exact .inl ⟨rfl, Prod.ext (HX.out.1.trans h1) (HX.out.2.trans h2)⟩
    have HF := Lib.hid h1; clear h1
    by_cases hc : x = t ∧ y = -1
    · have hrr := HR.out.1.2 (HF.out.2 hc)
      subst hrr
      obtain ⟨rfl, rfl⟩ := hc
      have he := run_eqlL x (-1) x (-1) W
      have hb : (x == x && (-1 : Int) == -1) = true := by simp
      rw [hb] at he
      clear HR hb
      go_wp2_with fail
      go_ret
      exact ⟨by rfl, HB.out.1⟩
    · have hrr := HR.out.2 (fun h => hc (HF.out.1 h))
      subst hrr
      have he := run_eqlL x y t (-1) W
      have hb : (x == t && y == -1) = false := by
        cases hz : (x == t && y == -1)
        · rfl
        · simp only [Bool.and_eq_true, beq_iff_eq] at hz
          exact absurd hz hc
      rw [hb] at he
      have HE := Lib.hid hc
      clear HR hb hc
      go_wp2_with fail
      all_goals (go_ret; first | exact ⟨by rfl, HB.out.1⟩ | exact absurd ⟨by assumption, by assumption⟩ HE.out)
  · have hs' : ((v : Int) == (src : Int)) = false := by simp; omega
    by_cases hx1 : x = -1
    · subst hx1
      have h1 : FollP l src t b lab v ↔ y = -1 := by
        constructor
        · rintro (⟨h1, _⟩ | ⟨_, _, h2⟩ | ⟨_, h2, _⟩)
          · exact absurd h1 hs
          · exact HX.out.2.symm.trans h2
          · exact absurd HX.out.1 h2
        · intro h1
          exact .inr (.inl ⟨hs, HX.out.1, HX.out.2.trans h1⟩)
      have HF := Lib.hid h1; clear h1
      go_wp2_with fail
      refine (HIR.out W HB.out.1).mono ?_
      rintro e w3 ⟨rfl, hb3⟩
      have hB3 := hbb.trans (hb3.mono hbb.size)
      have j2 := HB.out.2.2.below hb3 HB.out.2.2.lt
      have d0 : w3.cell? ⟨C + 1, 0, none⟩ = some (.int .i64 (-1)) := j2.cell 0
      have d1 : w3.cell? ⟨C + 1, 1, none⟩ = some (.int .i64 y) := j2.cell 1
      have HB3 := Lib.hid hB3
      clear hbb hb3 hB3 j2
      by_cases hc : y = -1
      · have hrr := HR.out.1.2 (HF.out.2 hc)
        subst hrr
        subst hc
        have he := run_eqlL (-1) (-1) (-1) (-1) w3
        have hb : ((-1 : Int) == -1 && (-1 : Int) == -1) = true := by simp
        rw [hb] at he
        clear HR hb
        go_wp2_with fail
        go_ret
        exact ⟨by rfl, HB3.out⟩
      · have hrr := HR.out.2 (fun h => hc (HF.out.1 h))
        subst hrr
        have he := run_eqlL (-1) y (-1) (-1) w3
        have hb : ((-1 : Int) == -1 && y == -1) = false := by simpa using hc
        rw [hb] at he
        have HE := Lib.hid hc
        clear HR hb hc
        go_wp2_with fail
        all_goals (go_ret; first | exact ⟨by rfl, HB3.out⟩ | exact absurd (by assumption) HE.out)
    · have hne : (decide (x ≠ -1)) = true := decide_eq_true hx1
      rw [hne] at HIR
      clear hne
      have hcase : ¬ IsT x ∨ (IsT x ∧ ¬ (0 ≤ y ∧ y < (m : Int))) ∨ (IsT x ∧ 0 ≤ y ∧ y < (m : Int)) := by
        by_cases h1 : IsT x
        · by_cases h2 : 0 ≤ y ∧ y < (m : Int)
          · exact .inr (.inr ⟨h1, h2⟩)
          · exact .inr (.inl ⟨h1, h2⟩)
        · exact .inl h1
      have HN := Lib.hid (And.intro hs hx1)
      go_wp2_with fail
      refine (HIR.out W HB.out.1).mono ?_
      rintro e w3 ⟨rfl, hb3⟩
      have hB3 := hbb.trans (hb3.mono hbb.size)
      have j2 := HB.out.2.2.below hb3 HB.out.2.2.lt
      have j1 := HB.out.2.1.below hb3 HB.out.2.1.lt
      have HJ := Lib.hid (And.intro hB3 (And.intro j1 j2))
      clear a0 a1 a2 a3 a4 d0 d1
      have a0 : w3.cell? ⟨C, 0, none⟩ = some (.slice A m c) := j1.cell 0
      have a1 : w3.cell? ⟨C, 1, none⟩ = some (.int .i64 src) := j1.cell 1
      have a2 : w3.cell? ⟨C, 2, none⟩ = some (.int .i64 t) := j1.cell 2
      have a3 : w3.cell? ⟨C, 3, none⟩ = some (.bool b) := j1.cell 3
      have a4 : w3.cell? ⟨C, 4, none⟩ = some (.slice (some ⟨g, off, none⟩) n c2) := j1.cell 4
      have d0 : w3.cell? ⟨C + 1, 0, none⟩ = some (.int .i64 x) := j2.cell 0
      have d1 : w3.cell? ⟨C + 1, 1, none⟩ = some (.int .i64 y) := j2.cell 1
      clear hbb hb3 hB3 j1 j2 HIR
      rcases hcase with h1 | ⟨h1, h2⟩ | ⟨h1, h2, h3⟩
      · have hrr := HR.out.2 (fun h => by
          rcases h with ⟨h2, _⟩ | ⟨_, h2, _⟩ | ⟨_, _, h2, _⟩
          · exact HN.out.1 h2
          · rw [HX.out.1] at h2; exact HN.out.2 h2
          · rw [HX.out.1] at h2; exact h1 h2)
        subst hrr
        have HT := Lib.hid (lTime_any x w3 false (decide_eq_false h1).symm)
        clear h1
        go_wp2_with fail
        refine HT.out.mono ?_
        rintro e w4 ⟨rfl, rfl⟩
        go_wp2_with fail
        go_ret
        exact ⟨by rfl, HJ.out.1⟩
      · have hrr := HR.out.2 (fun h => by
          rcases h with ⟨h3, _⟩ | ⟨_, h3, _⟩ | ⟨_, _, _, i, hi, hb, _⟩
          · exact HN.out.1 h3
          · rw [HX.out.1] at h3; exact HN.out.2 h3
          · rw [HX.out.2] at hb
            exact h2 ⟨by omega, by have := HA.out.1; omega⟩)
        subst hrr
        have HT := Lib.hid (lTime_any x w3 true (decide_eq_true h1).symm)
        have HI := Lib.hid (lIndex_any y m w3 false (decide_eq_false h2).symm)
        clear h1 h2
        go_wp2_with fail
        refine HT.out.mono ?_
        rintro e w4 ⟨rfl, rfl⟩
        go_wp2_with fail
        refine HI.out.mono ?_
        rintro e w4 ⟨rfl, rfl⟩
        go_wp2_with fail
        go_ret
        exact ⟨by rfl, HJ.out.1⟩
      · have HT := Lib.hid (lTime_any x w3 true (decide_eq_true h1).symm)
        have HI := Lib.hid (lIndex_any y m w3 true (decide_eq_true ⟨h2, h3⟩).symm)
        obtain ⟨i, rfl⟩ : ∃ i : Nat, y = (i : Int) := ⟨y.toNat, by omega⟩
        have him : i < m := by omega
        have hil : i < l.length := by have := HA.out.1; omega
        have hBC : Below w.heap.size w w3 := HJ.out.1
        have hAr := (HA.out.2.below hBC).more hBC.size
        have hLr := (HLs.out.2.below hBC).more hBC.size
        obtain ⟨b2, off2, hAe, hbB2, z0, z1, z2, z3, _⟩ := hAr i hil
        subst hAe
        have hRx := HRt.out.2.2.2 i hil
        obtain ⟨u, hu⟩ : ∃ u : Nat, (am l i).a.f = (u : Int) := ⟨(am l i).a.f.toNat, by have := hRx.1.1; omega⟩
        have hun : u < n := by have := hRx.2.1; omega
        have hMx := hAr.m (Nat.le_refl _) hil
        have HQ := Lib.hid (fun W (hb : Below w3.heap.size w3 W) => arrival_any (some ⟨b2, off2, none⟩) m c src t b (some ⟨g, off, none⟩) n c2 lab (am l i) u W hu hun HLs.out.1 ((hLr.below hb).more hb.size) (hMx.below hb))
        have hFP : FollP l src t b lab v ↔ (am l i).a.t = (v : Int) ∧ (am l i).a.pass b (lb lab u).1 = x := by
          constructor
          · rintro (⟨h3, _⟩ | ⟨_, h3, _⟩ | ⟨_, _, _, i', hi', hb, ht, hp⟩)
            · exact absurd h3 HN.out.1
            · rw [HX.out.1] at h3; exact absurd h3 HN.out.2
            · rw [HX.out.2] at hb
              have : i = i' := by omega
              subst this
              rw [hu, Int.toNat_natCast, HX.out.1] at hp
              exact ⟨ht, hp⟩
          · rintro ⟨ht, hp⟩
            exact .inr (.inr ⟨HN.out.1, by rw [HX.out.1]; exact HN.out.2, by rw [HX.out.1]; exact h1, i, hil, HX.out.2, ht, by rw [hu, Int.toNat_natCast, HX.out.1]; exact hp⟩)
        obtain ⟨zp, hzp⟩ : ∃ z, (am l i).a.pass b (lb lab u).1 = z := ⟨_, rfl⟩
        rw [hzp] at HQ hFP
        have HFP := Lib.hid hFP
        clear hFP hzp hRx hMx hAr hLr hil h1 h2 h3 hBC
        obtain ⟨x1, hx1⟩ : ∃ x, am l i = x := ⟨_, rfl⟩
        rw [hx1] at HQ z0 z1 z2 z3 hu HFP
        clear hx1
        obtain ⟨⟨f, t2, lo2, hi2⟩, A1, p1, A2, p2⟩ := x1
        simp only [Am.v] at HQ z0 z1 z2 z3 hu
        have HFP : Hid (FollP l src t b lab v ↔ t2 = (v : Int) ∧ zp = x) := HFP
        obtain ⟨n1, hn1⟩ : ∃ n1, lo2.length = n1 := ⟨_, rfl⟩
        obtain ⟨n2, hn2⟩ : ∃ n2, hi2.length = n2 := ⟨_, rfl⟩
        rw [hn1] at z2 HQ
        rw [hn2] at z3 HQ
        clear hn1 hn2
        subst hu
        have hA3 := (Below.refl w3.heap.size w3).alloc (Nat.le_refl _) (.cells #[.int .i64 u, .int .i64 t2, .slice A1 n1 p1, .slice A2 n2 p2] 39)
        have bk := Blk.new w3 39 #[.int .i64 u, .int .i64 t2, .slice A1 n1 p1, .slice A2 n2 p2]
        go_wp2_with fail
        refine HT.out.mono ?_
        rintro e w4 ⟨rfl, rfl⟩
        go_wp2_with fail
        refine HI.out.mono ?_
        rintro e w4 ⟨rfl, rfl⟩
        go_upto_region 9 with fail
        obtain ⟨W5, hW5⟩ : ∃ W, w3.alloc (.cells #[.int .i64 u, .int .i64 t2, .slice A1 n1 p1, .slice A2 n2 p2] 39) = W := ⟨_, rfl⟩
        rw [hW5] at hA3 bk ⊢
        clear hW5
        obtain ⟨D, hD⟩ : ∃ D, w3.heap.size = D := ⟨_, rfl⟩
        have j1 := HJ.out.2.1.below hA3 HJ.out.2.1.lt
        have j2 := HJ.out.2.2.below hA3 HJ.out.2.2.lt
        have hBw := HJ.out.1.trans (hA3.mono HJ.out.1.size)
        have HB5 := Lib.hid (And.intro hBw hA3)
        rw [hD] at bk ⊢
        clear a0 a1 a2 a3 a4 d0 d1 z0 z1 z2 z3 hA3 hBw HT HI hD
        have a0 : W5.cell? ⟨C, 0, none⟩ = some (.slice (some ⟨b2, off2, none⟩) m c) := j1.cell 0
        have a1 : W5.cell? ⟨C, 1, none⟩ = some (.int .i64 src) := j1.cell 1
        have a2 : W5.cell? ⟨C, 2, none⟩ = some (.int .i64 t) := j1.cell 2
        have a3 : W5.cell? ⟨C, 3, none⟩ = some (.bool b) := j1.cell 3
        have a4 : W5.cell? ⟨C, 4, none⟩ = some (.slice (some ⟨g, off, none⟩) n c2) := j1.cell 4
        have d0 : W5.cell? ⟨C + 1, 0, none⟩ = some (.int .i64 x) := j2.cell 0
        have q0 : W5.cell? ⟨D, 0, none⟩ = some (.int .i64 u) := bk.cell 0
        have q1 : W5.cell? ⟨D, 1, none⟩ = some (.int .i64 t2) := bk.cell 1
        have q2 : W5.cell? ⟨D, 2, none⟩ = some (.slice A1 n1 p1) := bk.cell 2
        have q3 : W5.cell? ⟨D, 3, none⟩ = some (.slice A2 n2 p2) := bk.cell 3
        clear j1 j2 bk
        by_cases htv : t2 = (v : Int)
        · subst htv
          have Q : Hid (∀ xx os, Calls Try.prog 75 #[clv (some ⟨b2, off2, none⟩) m c src t b (some ⟨g, off, none⟩) n c2, .agg #[.int .i64 u, .int .i64 v, .slice A1 n1 p1, .slice A2 n2 p2]] (grow (redrawn W5 xx) os) fun e w'' => e = .returned (.int .i64 zp) ∧ ∃ p : Regrown, w'' = grow (redrawn W5 p.d) p.os) := Lib.hid (fun xx os => Calls.regrown_of (HQ.out _ (HB5.out.2.trans ((below_regrown W5 xx os).mono HB5.out.2.size))))
          have a0 := cell_regrown a0
          have a1 := cell_regrown a1
          have a2 := cell_regrown a2
          have a3 := cell_regrown a3
          have a4 := cell_regrown a4
          have d0 := cell_regrown d0
          have q0 := cell_regrown q0
          have q1 := cell_regrown q1
          have q2 := cell_regrown q2
          have q3 := cell_regrown q3
          have hrr : r = (zp == x) := by
            have h2 := HR.out.1.trans HFP.out
            cases r
            · cases hz : (zp == x)
              · rfl
              · simp only [beq_iff_eq] at hz
                exact absurd (h2.2 ⟨rfl, hz⟩) (by simp)
            · have := (h2.1 rfl).2
              rw [this]; simp
          clear HR HQ
          refine wp_region_quiet_below (by kernel_rfl) (by kernel_rfl) ?_
          repeat (quiet_step (first | (go_at_call 75; with_reducible exact Q.out _ _)))
          refine wpQuiet_nil ?_
          intro w6 hw6
          have HB6 := Lib.hid (show Below w.heap.size w w6 by obtain ⟨p, rfl⟩ := hw6; exact HB5.out.1.trans ((below_regrown W5 p.d p.os).mono HB5.out.1.size))
          clear hw6 a0 a1 a2 a3 a4 d0 q0 q1 q2 q3 Q
          subst hrr
          go_wp2_with fail
          go_ret
          exact ⟨by rfl, HB6.out⟩
        · have hrr := HR.out.2 (fun h => htv (HFP.out.1 h).1)
          subst hrr
          have htv2 : (t2 == (v : Int)) = false := by simpa using htv
          clear HR HQ
          go_quiet (fail)
          go_wp2_with fail
          go_ret
          exact ⟨by rfl, below_drewN HB5.out.1 _⟩

end Go.Proofs.Yteiojobgjdfdpaa
