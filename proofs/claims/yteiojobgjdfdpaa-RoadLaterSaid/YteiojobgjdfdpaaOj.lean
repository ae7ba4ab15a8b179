/- Walks: RoadLater: the list with one more arc. -/
import Derived.Test.YteiojobgjdfdpaaOh
import Derived.Test.YteiojobgjdfdpaaOi
import Derived.Test.YteiojobgjdfdpaaRb
import Derived.Test.YteiojobgjdfdpaaRo
import Derived.Deep.RegionHeld3
namespace Go.Proofs.Yteiojobgjdfdpaa
open Go.RowKit Go.Sort

set_option maxRecDepth 100000 in
theorem sooner_any (a b : Int) (w : World) (r : Bool) (hr : r = decide (b < 0 ∨ (0 ≤ a ∧ a ≤ b))) :
    Calls Try.prog 25 #[.int .i64 a, .int .i64 b] w fun e w' => e = .returned (.bool r) ∧ w = w' := by
  have HR := Lib.hid hr; clear hr
  go_enter Try.func25, Try.ntmps25
  by_cases h1 : b < 0
  · go_wp2_with fail
    go_ret
    exact ⟨by rw [HR.out, decide_eq_true (.inl h1)]; rfl, rfl⟩
  · by_cases h2 : 0 ≤ a
    · by_cases h3 : a ≤ b
      · go_wp2_with fail
        go_ret
        exact ⟨by rw [HR.out, decide_eq_true (.inr ⟨h2, h3⟩)]; rfl, rfl⟩
      · go_wp2_with fail
        go_ret
        exact ⟨by rw [HR.out, decide_eq_false (by omega)]; rfl, rfl⟩
    · go_wp2_with fail
      go_ret
      exact ⟨by rw [HR.out, decide_eq_false (by omega)]; rfl, rfl⟩
theorem below_dr {B : Nat} {w w' : World} (h : Below B w w') : Below B w w'.drew := ⟨h.os, h.tape, h.output, h.size, h.block⟩
set_option maxRecDepth 100000 in
set_option maxHeartbeats 16000000 in
theorem roadLater_any (n : Int) (l : List Am) (A : Option Addr) (c m : Nat) (src t : Int) (later : Nat) (x : Am) (w : World) (hl : l.length = m) (hA : ArcsAt w.heap.size w A l) (hm : m ≤ 2199023255488) (hlt : later < 65536) (hX : ArcM w x.a x.A x.A') :
    Calls Try.prog 5 #[.int .i64 n, .slice A m c, .int .i64 src, .int .i64 t, .int .u16 later, x.v] w fun e w' => e = .returned (.bool true) ∧ Below w.heap.size w w' := by
  have HA := Lib.hid (And.intro hl (And.intro hA hX))
  clear hl hA hX
  obtain ⟨f0, hf0⟩ : ∃ z, x.a.f = z := ⟨_, rfl⟩
  obtain ⟨t0, ht0⟩ : ∃ z, x.a.t = z := ⟨_, rfl⟩
  obtain ⟨n1, hn1⟩ : ∃ z, x.a.lo.length = z := ⟨_, rfl⟩
  obtain ⟨n2, hn2⟩ : ∃ z, x.a.hi.length = z := ⟨_, rfl⟩
  obtain ⟨A1, hA1⟩ : ∃ z, x.A = z := ⟨_, rfl⟩
  obtain ⟨A2, hA2⟩ : ∃ z, x.A' = z := ⟨_, rfl⟩
  obtain ⟨p1, hp1⟩ : ∃ z, x.c = z := ⟨_, rfl⟩
  obtain ⟨p2, hp2⟩ : ∃ z, x.c' = z := ⟨_, rfl⟩
  have hxv : x.v = .agg #[.int .i64 f0, .int .i64 t0, .slice A1 n1 p1, .slice A2 n2 p2] := by rw [← hf0, ← ht0, ← hn1, ← hn2, ← hA1, ← hA2, ← hp1, ← hp2]
  have HX := Lib.hid (And.intro hf0 (And.intro ht0 (And.intro hn1 (And.intro hn2 (And.intro hA1 (And.intro hA2 (And.intro hp1 hp2)))))))
  rw [hxv]
  clear hf0 ht0 hn1 hn2 hA1 hA2 hp1 hp2 hxv
  have hbx := (Below.refl w.heap.size w).alloc (Nat.le_refl _) (.cells #[.int .i64 f0, .int .i64 t0, .slice A1 n1 p1, .slice A2 n2 p2] 39)
  have hkx := Blk.new w 39 #[.int .i64 f0, .int .i64 t0, .slice A1 n1 p1, .slice A2 n2 p2]
  have HBX := Lib.hid (And.intro hbx hkx)
  clear hbx hkx
  go_enter Try.func5, Try.ntmps5
  go_wp2_with fail
  refine (small_any _).mono ?_
  rintro e w0 ⟨rfl, b0⟩
  have hb0 := HBX.out.1.trans (b0.mono HBX.out.1.size)
  have hk0 := HBX.out.2.below b0 HBX.out.2.lt
  have H0 := Lib.hid (And.intro ((HA.out.2.1.below hb0).more hb0.size) (And.intro (HA.out.2.2.below hb0) (And.intro hb0 hk0)))
  obtain ⟨C, hC⟩ : ∃ C, w.heap.size = C := ⟨_, rfl⟩
  have q0 : w0.cell? ⟨C, 0, none⟩ = some (.int .i64 f0) := by rw [← hC]; exact hk0.cell 0
  have q1 : w0.cell? ⟨C, 1, none⟩ = some (.int .i64 t0) := by rw [← hC]; exact hk0.cell 1
  have q2 : w0.cell? ⟨C, 2, none⟩ = some (.slice A1 n1 p1) := by rw [← hC]; exact hk0.cell 2
  have q3 : w0.cell? ⟨C, 3, none⟩ = some (.slice A2 n2 p2) := by rw [← hC]; exact hk0.cell 3
  have hCl : C < w0.heap.size := by rw [← hC]; exact hk0.lt
  clear b0 hb0 hk0
  go_upto_region 2 with fail
  have HC := Lib.hid hC
  clear hC
  have hxs : ∀ W, Below w0.heap.size w0 W → ArcsAt (W.heap.size + 1) (W.alloc (.cells #[.int .i64 f0, .int .i64 t0, .slice A1 n1 p1, .slice A2 n2 p2] 39)) (some ⟨W.heap.size, 0, none⟩) [x] := fun W hb => by
    have hM := H0.out.2.1.below hb
    obtain ⟨e1, e2, e3, e4, e5, e6, e7, e8⟩ := HX.out
    have := lit_arc W x (W.heap.size + 1) hM.lo hM.hi (by omega)
    rw [e1, e2, e3, e4, e5, e6, e7, e8] at this
    exact this
  have HXS := Lib.hid hxs
  have e1 := emptyA w0 (Nat.le_refl w0.heap.size)
  have bE := (Below.refl w0.heap.size w0).alloc (Nat.le_refl _) (.cells #[] 39)
  have bX := (Below.refl w0.heap.size w0).alloc (Nat.le_refl _) (.cells #[.int .i64 f0, .int .i64 t0, .slice A1 n1 p1, .slice A2 n2 p2] 39)
  have bEX := bE.alloc bE.size (.cells #[.int .i64 f0, .int .i64 t0, .slice A1 n1 p1, .slice A2 n2 p2] 39)
  have bXE := bX.alloc bX.size (.cells #[] 39)
  have e2 : OwnA ((w0.alloc (.cells #[] 39)).alloc (.cells #[.int .i64 f0, .int .i64 t0, .slice A1 n1 p1, .slice A2 n2 p2] 39)) w0.heap.size (.slice (some ⟨w0.heap.size, 0, none⟩) 0 0) [] := e1.below ((Below.refl _ _).alloc (Nat.le_refl _) _)
  have e3 := emptyA (w0.alloc (.cells #[.int .i64 f0, .int .i64 t0, .slice A1 n1 p1, .slice A2 n2 p2] 39)) (B := w0.heap.size) (by simp)
  rw [World.size_alloc] at e3
  have x2 := hxs (w0.alloc (.cells #[] 39)) bE
  rw [World.size_alloc] at x2
  have x3 := hxs w0 (Below.refl _ _)
  have kx2 : Blk ((w0.alloc (.cells #[] 39)).alloc (.cells #[.int .i64 f0, .int .i64 t0, .slice A1 n1 p1, .slice A2 n2 p2] 39)) (w0.heap.size + 1) 39 #[.int .i64 f0, .int .i64 t0, .slice A1 n1 p1, .slice A2 n2 p2] := by
    have := Blk.new (w0.alloc (.cells #[] 39)) 39 #[.int .i64 f0, .int .i64 t0, .slice A1 n1 p1, .slice A2 n2 p2]
    rw [World.size_alloc] at this
    exact this
  have kx3 : Blk ((w0.alloc (.cells #[.int .i64 f0, .int .i64 t0, .slice A1 n1 p1, .slice A2 n2 p2] 39)).alloc (.cells #[] 39)) w0.heap.size 39 #[.int .i64 f0, .int .i64 t0, .slice A1 n1 p1, .slice A2 n2 p2] := (Blk.new w0 _ _).alloc _
  have HE := Lib.hid (And.intro e1 (And.intro e2 e3))
  have HW := Lib.hid (And.intro bE (And.intro bEX bXE))
  have HKX := Lib.hid (And.intro kx2 kx3)
  have HBD := Lib.hid (And.intro (below_dr (Below.refl w0.heap.size w0)) (And.intro (below_dr bE) (And.intro (below_dr bX) (And.intro (below_dr bEX) (below_dr bXE)))))
  have HSRC := Lib.hid (fun W (hb : Below w0.heap.size w0 W) => H0.out.1.below hb)
  have HSX : Hid (∀ (W : World) (g : Nat), Below w0.heap.size w0 W → Blk W g 39 #[.int .i64 f0, .int .i64 t0, .slice A1 n1 p1, .slice A2 n2 p2] → ArcsAt W.heap.size W (some ⟨g, 0, none⟩) [x]) := Lib.hid (fun W g hb hk k hk1 => by
    have : k = 0 := by simpa using hk1
    subst this
    have hM := H0.out.2.1.below hb
    obtain ⟨e1, e2, e3, e4, e5, e6, e7, e8⟩ := HX.out
    refine ⟨g, 0, rfl, hk.lt, ?_, ?_, ?_, ?_, hM.lo, hM.hi⟩
    · show _ = some (Value.int .i64 x.a.f); rw [e1]; exact hk.cell 0
    · show _ = some (Value.int .i64 x.a.t); rw [e2]; exact hk.cell 1
    · show _ = some (Value.slice x.A x.a.lo.length x.c); rw [e3, e5, e7]; exact hk.cell 2
    · show _ = some (Value.slice x.A' x.a.hi.length x.c'); rw [e4, e6, e8]; exact hk.cell 3)
  have HKP : Hid (∀ W, Below w0.heap.size w0 W → W.cell? ⟨C, 0, none⟩ = some (.int .i64 f0) ∧ W.cell? ⟨C, 1, none⟩ = some (.int .i64 t0) ∧ W.cell? ⟨C, 2, none⟩ = some (.slice A1 n1 p1) ∧ W.cell? ⟨C, 3, none⟩ = some (.slice A2 n2 p2)) := Lib.hid (fun W hb => ⟨(hb.cell (p := ⟨C, 0, none⟩) hCl).trans q0, (hb.cell (p := ⟨C, 1, none⟩) hCl).trans q1, (hb.cell (p := ⟨C, 2, none⟩) hCl).trans q2, (hb.cell (p := ⟨C, 3, none⟩) hCl).trans q3⟩)
  clear hxs e1 e2 e3 x2 x3 bE bX bEX bXE kx2 kx3 q0 q1 q2 q3
  have hT1 : ∀ (ops : Array Oper) (o : Oper) (a : Act) (K : Act → World → Prop) (Q : Exit → Act → World → Prop) (E : Prop) (W : World) (g : Nat), o.guard = none → o.op = .call { callee := .builtin .append, args := #[.tmp 25, .tmp 26], argTypes := #[22, 22] } → a.eval (.tmp 25) = .slice (some ⟨g, 0, none⟩) 0 0 → a.eval (.tmp 26) = .slice A m c →
      OwnA W w0.heap.size (.slice (some ⟨g, 0, none⟩) 0 0) [] → Below w0.heap.size w0 W → (∀ v' w', OwnA w' w0.heap.size v' l → W.grownBy w' (some g) → Below w0.heap.size w0 w' → K (a.put o.dst v') w') → if Region.wanted o (yielded ops a.tmps) = true then Oper.wp Try.prog o a W K Q else E := fun ops o a K Q E W g h1 h2 h3 h4 h5 h6 h7 =>
    step_appA h1 (.tmp 25) (.tmp 26) h2 w0.heap.size _ [] l A m c _ h3 h5 h4 HA.out.1 (HSRC.out _ h6) (by simp only [List.length_nil, Nat.zero_add]; omega) h6.size (fun v' w' q1 q2 _ => h7 v' w' q1 q2 (grown_belA h6 h5 q2 (Nat.le_refl _)))
  have hT2 : ∀ (ops : Array Oper) (o : Oper) (a : Act) (K : Act → World → Prop) (Q : Exit → Act → World → Prop) (E : Prop) (W : World) (v8 : Value) (g B' : Nat), o.guard = none → o.op = .call { callee := .builtin .append, args := #[.tmp 27, .tmp 29], argTypes := #[22, 22] } → a.eval (.tmp 27) = v8 → a.eval (.tmp 29) = .slice (some ⟨g, 0, none⟩) 1 1 →
      OwnA W w0.heap.size v8 l → Below w0.heap.size w0 W → ArcsAt B' W (some ⟨g, 0, none⟩) [x] → (∀ v' w', OwnA w' w0.heap.size v' (l ++ [x]) → Below w0.heap.size w0 w' → K (a.put o.dst v') w') → if Region.wanted o (yielded ops a.tmps) = true then Oper.wp Try.prog o a W K Q else E := fun ops o a K Q E W v8 g B' h1 h2 h3 h4 h5 h6 h8 h7 =>
    step_appA h1 (.tmp 27) (.tmp 29) h2 w0.heap.size _ l [x] _ 1 1 _ h3 h5 h4 rfl h8 (by have := HA.out.1; omega) h6.size (fun v' w' q1 q2 _ => h7 v' w' q1 (grown_belA h6 h5 q2 (Nat.le_refl _)))
  have HT1 := Lib.hid hT1
  have HT2 := Lib.hid hT2
  have HEND : Hid (∀ v9 w9, OwnA w9 w0.heap.size v9 (l ++ [x]) → Below w0.heap.size w0 w9 → ∃ G cg, v9 = .slice G (m + 1) cg ∧ Hid (ArcsAt w9.heap.size w9 G (l ++ [x]))) := Lib.hid (fun v9 w9 ho hb => by
    have hA9 := (H0.out.1.below hb).more hb.size
    have hX9 := H0.out.2.1.below hb
    have hlen : (l ++ [x]).length = m + 1 := by have := HA.out.1; simp; omega
    obtain ⟨G, cg, e, h⟩ := ho.arcs (fun k hk => by
      by_cases e : k < l.length
      · rw [am_pre e]
        obtain ⟨_, _, _, _, _, _, _, _, h4, h5⟩ := hA9 k e
        exact ⟨h4, h5⟩
      · have : k = l.length := by have := HA.out.1; omega
        subst this
        rw [am_last]
        exact ⟨hX9.lo, hX9.hi⟩)
    rw [hlen] at e
    exact ⟨G, cg, e, Lib.hid h⟩)
  clear hT1 hT2
  go_cut [14] from 25 to 30 (fun v wx => ∃ G cg, v = .slice G (m + 1) cg ∧ Hid (ArcsAt wx.heap.size wx G (l ++ [x])) ∧ Hid (Below w0.heap.size w0 wx))
  case first =>
    go_region_held3 (fun W => W.cell? ⟨C, 0, none⟩ = some (.int .i64 f0) ∧ W.cell? ⟨C, 1, none⟩ = some (.int .i64 t0) ∧ W.cell? ⟨C, 2, none⟩ = some (.slice A1 n1 p1) ∧ W.cell? ⟨C, 3, none⟩ = some (.slice A2 n2 p2))
      (first | exact HKP.out _ hb9 | exact HKP.out _ hb8 | exact HKP.out _ (hb8.alloc hb8.size _) | exact HKP.out _ HBD.out.1 | exact HKP.out _ HBD.out.2.1 | exact HKP.out _ HBD.out.2.2.1 | exact HKP.out _ HBD.out.2.2.2.1 | exact HKP.out _ HBD.out.2.2.2.2)
      (first
        | (refine HT1.out _ _ _ _ _ _ _ w0.heap.size rfl rfl (by rfl) (by rfl) HE.out.1 HBD.out.2.1 ?_; intro v8 w8 hown8 hg8 hb8)
        | (refine HT1.out _ _ _ _ _ _ _ w0.heap.size rfl rfl (by rfl) (by rfl) HE.out.2.1 HBD.out.2.2.2.1 ?_; intro v8 w8 hown8 hg8 hb8; have hk8 := HKX.out.1; have hx8 := HSX.out w8 (w0.heap.size + 1) hb8 ((hg8.block _ hk8.lt (by simp)).trans hk8))
        | (refine HT1.out _ _ _ _ _ _ _ (w0.heap.size + 1) rfl rfl (by rfl) (by rfl) HE.out.2.2 HBD.out.2.2.2.2 ?_; intro v8 w8 hown8 hg8 hb8; have hk8 := HKX.out.2; have hx8 := HSX.out w8 w0.heap.size hb8 ((hg8.block _ hk8.lt (by simp)).trans hk8))
        | (refine HT2.out _ _ _ _ _ _ _ v8 _ _ rfl rfl (by rfl) (by rfl) hown8 hb8 hx8 ?_; intro v9 w9 hown9 hb9; obtain ⟨G9, c9, rfl, ha9⟩ := HEND.out v9 w9 hown9 hb9)
        | (refine HT2.out _ _ _ _ _ _ _ v8 w8.heap.size _ rfl rfl (by rfl) (by rfl) (hown8.below ((Below.refl _ _).alloc (Nat.le_refl _) _)) (hb8.alloc hb8.size _) (HXS.out w8 hb8) ?_; intro v9 w9 hown9 hb9; obtain ⟨G9, c9, rfl, ha9⟩ := HEND.out v9 w9 hown9 hb9))
    all_goals
      go_wp2_with fail
      go_meet
      exact ⟨G9, c9, rfl, ha9, Lib.hid hb9⟩
  obtain ⟨G, cg, rfl, hM9, hB9⟩ := hcut
  have hBc : Below w.heap.size w wc := H0.out.2.2.1.trans (hB9.out.mono H0.out.2.2.1.size)
  have hkc : Blk wc w.heap.size 39 #[.int .i64 f0, .int .i64 t0, .slice A1 n1 p1, .slice A2 n2 p2] := H0.out.2.2.2.below hB9.out H0.out.2.2.2.lt
  have HB := Lib.hid (And.intro hBc hkc)
  have HAr := Lib.hid (fun W (hb : Below w.heap.size w W) => (HA.out.2.1.below hb).more hb.size)
  have hm9 : m ≤ 9223372036854775807 := by omega
  clear hBc hkc HT1 HT2 HEND HXS HSX HKP HE HW HKX HBD HSRC hB9
  go_wp2_with fail
  refine (few11_any n l A c m wc HA.out.1 (HAr.out _ HB.out.1) hm9).mono ?_
  rintro e w3 ⟨r, rfl, hFP, rfl⟩
  cases r with
  | false =>
    clear hFP
    go_wp2_with fail
    go_ret
    exact ⟨rfl, HB.out.1⟩
  | true =>
    have HF := Lib.hid (hFP rfl)
    clear hFP
    have hm31 : m ≤ 30 := by have h1 := HF.out.1; have h2 := HA.out.1; omega
    obtain ⟨r2, hr2⟩ : ∃ r2 : Bool, r2 = true ↔ RRight n l := ⟨Classical.propDecidable (RRight n l) |> fun d => @decide _ d, by simp⟩
    have HRr := Lib.hid hr2; clear hr2
    go_wp2_with fail
    refine (rr_any n l A c m wc HA.out.1 (HAr.out _ HB.out.1) r2 HRr.out).mono ?_
    rintro e w4 ⟨rfl, b4⟩
    have hB4 := HB.out.1.trans (b4.mono HB.out.1.size)
    have hk4 := HB.out.2.below b4 HB.out.2.lt
    have hM4 := (hM9.out.below b4).more b4.size
    have H4 := Lib.hid (And.intro hB4 hM4)
    have q2 : w4.cell? ⟨C, 2, none⟩ = some (.slice A1 n1 p1) := by rw [← HC.out]; exact hk4.cell 2
    have q3 : w4.cell? ⟨C, 3, none⟩ = some (.slice A2 n2 p2) := by rw [← HC.out]; exact hk4.cell 3
    clear b4 hB4 hk4 hM4 HB hM9
    cases r2 with
    | false =>
      go_wp2_with fail
      go_ret
      exact ⟨rfl, H4.out.1⟩
    | true =>
      have HR := Lib.hid (HRr.out.1 (by simp))
      clear HRr
      have hn1 : 1 ≤ n := HR.out.1
      have hn2000 : n ≤ 2000 := HR.out.2.1
      by_cases hs0 : src < 0
      · go_wp2_with fail
        go_ret
        exact ⟨rfl, H4.out.1⟩
      by_cases hs1 : n ≤ src
      · go_wp2_with fail
        go_ret
        exact ⟨rfl, H4.out.1⟩
      by_cases ht0 : t < 0
      · go_wp2_with fail
        go_ret
        exact ⟨rfl, H4.out.1⟩
      by_cases ht1 : 1000000 < t
      · go_wp2_with fail
        go_ret
        exact ⟨rfl, H4.out.1⟩
      by_cases hx1 : 30 < n1
      · have h1 : decide (30 < n1) = true := decide_eq_true hx1
        have h2 : decide (30 < (n1 : Int)) = true := decide_eq_true (by omega)
        go_wp2_with fail
        go_ret
        exact ⟨rfl, H4.out.1⟩
      have h1 : decide (30 < n1) = false := decide_eq_false hx1
      have h1' : decide (30 < (n1 : Int)) = false := decide_eq_false (by omega)
      by_cases hx2 : 30 < n2
      · have h2 : decide (30 < n2) = true := decide_eq_true hx2
        have h2' : decide (30 < (n2 : Int)) = true := decide_eq_true (by omega)
        go_wp2_with fail
        go_ret
        exact ⟨rfl, H4.out.1⟩
      have h2 : decide (30 < n2) = false := decide_eq_false hx2
      have h2' : decide (30 < (n2 : Int)) = false := decide_eq_false (by omega)
      obtain ⟨n0, rfl⟩ : ∃ n0 : Nat, n = (n0 : Int) := ⟨n.toNat, by omega⟩
      obtain ⟨s0, rfl⟩ : ∃ s0 : Nat, src = (s0 : Int) := ⟨src.toNat, by omega⟩
      have hsn : s0 < n0 := by omega
      have hn12 : n0 ≤ 2000 := by omega
      have HT := Lib.hid (show IsT t from ⟨by omega, by omega⟩)
      obtain ⟨tl, htl⟩ : ∃ tl, min (t + (later : Int)) 1048576 = tl := ⟨_, rfl⟩
      have HTL := Lib.hid (show IsT tl ∧ t ≤ tl from ⟨⟨by omega, by omega⟩, by omega⟩)
      clear hx1 hx2
      go_wp2_with fail
      refine (earlyL n0 m c A l s0 t true w4 HA.out.1 (HAr.out _ H4.out.1) HR.out hsn HT.out (by omega)).mono ?_
      rintro e w5 ⟨ga, ea, rfl, _, hFa, hLa, hla, b5⟩
      have HW5 := Lib.hid (H4.out.1.trans (b5.mono H4.out.1.size))
      have LA := Lib.hid (And.intro hFa (And.intro hLa hla))
      have hM5 := Lib.hid ((H4.out.2.below b5).more b5.size)
      clear hFa hLa hla b5 q2 q3 h1 h1' h2 h2'
      go_wp2_with fail
      refine (earlyL n0 m c A l s0 t false w5 HA.out.1 (HAr.out _ HW5.out) HR.out hsn HT.out (by omega)).mono ?_
      rintro e w6 ⟨gb, eb, rfl, _, hFb, hLb, hlb, b6⟩
      have HW6 := Lib.hid (HW5.out.trans (b6.mono HW5.out.size))
      have LB := Lib.hid (And.intro hFb (And.intro hLb hlb))
      have hM6 := Lib.hid ((hM5.out.below b6).more b6.size)
      have LA := Lib.hid (And.intro LA.out.1 (And.intro ((LA.out.2.1.below b6).more b6.size) LA.out.2.2))
      clear hFb hLb hlb b6 hM5
      have hadd : IntKind.i64.wrap (t + (later : Int)) = t + later := by rw [IntKind.wrap_i64]; omega
      go_wp2_with fail
      refine (earlyL n0 m c A l s0 tl true w6 HA.out.1 (HAr.out _ HW6.out) HR.out hsn HTL.out.1 (by omega)).mono ?_
      rintro e w7 ⟨gc, ec, rfl, _, hFc, hLc, hlc, b7⟩
      have HW7 := Lib.hid (HW6.out.trans (b7.mono HW6.out.size))
      have LC := Lib.hid (And.intro hFc (And.intro hLc hlc))
      have hM7 := Lib.hid ((hM6.out.below b7).more b7.size)
      have LA := Lib.hid (And.intro LA.out.1 (And.intro ((LA.out.2.1.below b7).more b7.size) LA.out.2.2))
      have LB := Lib.hid (And.intro LB.out.1 (And.intro ((LB.out.2.1.below b7).more b7.size) LB.out.2.2))
      clear hFc hLc hlc b7 hM6 hadd htl
      have hlen : (l ++ [x]).length = m + 1 := by have := HA.out.1; simp; omega
      have HPre : Hid (∀ i, i < l.length → i < (l ++ [x]).length ∧ am (l ++ [x]) i = am l i) := Lib.hid (fun i h => ⟨by simp; omega, am_pre h⟩)
      have HGA : Hid (∀ v, v < n0 → 0 ≤ (lb ea v).1 → 0 ≤ (lb eb v).1 ∧ (lb eb v).1 ≤ (lb ea v).1) := Lib.hid (later_gen HR.out (fun i h => ⟨h, rfl⟩) LB.out.1 LA.out.1 (Int.le_refl _) HT.out.1 (.inr rfl))
      have HGC : Hid (∀ v, v < n0 → 0 ≤ (lb ec v).1 → 0 ≤ (lb ea v).1 ∧ (lb ea v).1 ≤ (lb ec v).1) := Lib.hid (later_gen HR.out (fun i h => ⟨h, rfl⟩) LA.out.1 LC.out.1 HTL.out.2 HT.out.1 (.inl rfl))
      by_cases hRm : RRight n0 (l ++ [x])
      · have HE4 := Lib.hid (earlyL n0 (m + 1) cg G (l ++ [x]) s0 t true w7 hlen hM7.out hRm hsn HT.out (by omega))
        have HRm := Lib.hid hRm
        clear hRm
        go_wp2_with fail
        refine HE4.out.mono ?_
        rintro e w8 ⟨gd, ed, rfl, _, hFd, hLd, hld, b8⟩
        have HW8 := Lib.hid (HW7.out.trans (b8.mono HW7.out.size))
        have LD := Lib.hid (And.intro hFd (And.intro hLd hld))
        have hM8 := Lib.hid ((hM7.out.below b8).more b8.size)
        have LA := Lib.hid (And.intro LA.out.1 (And.intro ((LA.out.2.1.below b8).more b8.size) LA.out.2.2))
        have LB := Lib.hid (And.intro LB.out.1 (And.intro ((LB.out.2.1.below b8).more b8.size) LB.out.2.2))
        have LC := Lib.hid (And.intro LC.out.1 (And.intro ((LC.out.2.1.below b8).more b8.size) LC.out.2.2))
        have HGD : Hid (∀ v, v < n0 → 0 ≤ (lb ea v).1 → 0 ≤ (lb ed v).1 ∧ (lb ed v).1 ≤ (lb ea v).1) := Lib.hid (later_gen HR.out HPre.out hFd LA.out.1 (Int.le_refl _) HT.out.1 (.inl rfl))
        clear hFd hLd hld b8 hM7 HE4
        have HRM := Lib.hid (rr_any n0 (l ++ [x]) G cg (m + 1) w8 hlen hM8.out true ⟨fun _ => HRm.out, fun _ => rfl⟩)
        go_wp2_with fail
        refine HRM.out.mono ?_
        rintro e w9 ⟨rfl, b9⟩
        have HW9 := Lib.hid (HW8.out.trans (b9.mono HW8.out.size))
        have LA := Lib.hid (And.intro ((LA.out.2.1.below b9).more b9.size) LA.out.2.2)
        have LB := Lib.hid (And.intro ((LB.out.2.1.below b9).more b9.size) LB.out.2.2)
        have LC := Lib.hid (And.intro ((LC.out.2.1.below b9).more b9.size) LC.out.2.2)
        have LD := Lib.hid (And.intro ((LD.out.2.1.below b9).more b9.size) LD.out.2.2)
        clear b9 HRM hM8
        go_wp2_with fail
        go_loopw [23] (fun iv wr => ∃ i : Nat, iv = .int .i64 i ∧ i ≤ n0 ∧ Hid (Below w9.heap.size w9 wr)) (fun iv _ => n0 - (intOf iv).toNat)
        case atStart => exact ⟨0, rfl, by omega, Lib.hid (Below.refl _ _)⟩
        case round =>
          obtain ⟨i, rfl, hi, hB⟩ := hrel
          by_cases hgo : i < n0
          · have d1 := ((LA.out.1.below hB.out).get LA.out.2 hgo).1
            have d2 := ((LB.out.1.below hB.out).get LB.out.2 hgo).1
            have d3 := ((LC.out.1.below hB.out).get LC.out.2 hgo).1
            have d4 := ((LD.out.1.below hB.out).get LD.out.2 hgo).1
            have g1 := HGA.out i hgo
            have g2 := HGC.out i hgo
            have g3 := HGD.out i hgo
            obtain ⟨ya, hya⟩ : ∃ y, (lb ea i).1 = y := ⟨_, rfl⟩
            obtain ⟨yb, hyb⟩ : ∃ y, (lb eb i).1 = y := ⟨_, rfl⟩
            obtain ⟨yc, hyc⟩ : ∃ y, (lb ec i).1 = y := ⟨_, rfl⟩
            obtain ⟨yd, hyd⟩ : ∃ y, (lb ed i).1 = y := ⟨_, rfl⟩
            rw [hya] at d1 g1 g2 g3
            rw [hyb] at d2 g1
            rw [hyc] at d3 g2
            rw [hyd] at d4 g3
            have S1 := Lib.hid (fun d => (sooner_any yb ya (wr.drewN d) true (decide_eq_true (show ya < 0 ∨ (0 ≤ yb ∧ yb ≤ ya) by omega)).symm).mono (R' := fun e w' => e = .returned (.bool true) ∧ w' = wr.drewN d) (fun _ _ ⟨a, b⟩ => ⟨a, b.symm⟩))
            have S2 := Lib.hid (fun d => (sooner_any ya yc (wr.drewN d) true (decide_eq_true (show yc < 0 ∨ (0 ≤ ya ∧ ya ≤ yc) by omega)).symm).mono (R' := fun e w' => e = .returned (.bool true) ∧ w' = wr.drewN d) (fun _ _ ⟨a, b⟩ => ⟨a, b.symm⟩))
            have S3 := Lib.hid (fun d => (sooner_any yd ya (wr.drewN d) true (decide_eq_true (show ya < 0 ∨ (0 ≤ yd ∧ yd ≤ ya) by omega)).symm).mono (R' := fun e w' => e = .returned (.bool true) ∧ w' = wr.drewN d) (fun _ _ ⟨a, b⟩ => ⟨a, b.symm⟩))
            clear g1 g2 g3 hya hyb hyc hyd
            go_upto_region 18 with fail
            go_quiet ((go_at_call 25; (first | with_reducible exact Calls.quiet_of_same (S1.out _) | with_reducible exact Calls.quiet_of_same (S2.out _) | with_reducible exact Calls.quiet_of_same (S3.out _))))
            go_wp2_with fail
            go_roundw
            case rel => exact ⟨i + 1, rfl, by omega, Lib.hid (below_drewN hB.out _)⟩
            case measure => simp [intOf]; omega
          · have e : i = n0 := by omega
            subst e
            go_wp2_with fail
            go_ret
            exact ⟨rfl, HW9.out.trans (hB.out.mono HW9.out.size)⟩
      · have HE4 := Lib.hid (early_bad n0 (m + 1) cg G (l ++ [x]) s0 t true w7 hlen hM7.out (fun h => hRm h.1))
        have HRm := Lib.hid hRm
        clear hRm
        go_wp2_with fail
        refine HE4.out.mono ?_
        rintro e w8 ⟨rfl, b8⟩
        have HW8 := Lib.hid (HW7.out.trans (b8.mono HW7.out.size))
        have hM8 := Lib.hid ((hM7.out.below b8).more b8.size)
        have LA := Lib.hid (And.intro LA.out.1 (And.intro ((LA.out.2.1.below b8).more b8.size) LA.out.2.2))
        have LB := Lib.hid (And.intro LB.out.1 (And.intro ((LB.out.2.1.below b8).more b8.size) LB.out.2.2))
        have LC := Lib.hid (And.intro LC.out.1 (And.intro ((LC.out.2.1.below b8).more b8.size) LC.out.2.2))
        have LD := LA
        have HGD : Hid (∀ v, v < n0 → 0 ≤ (lb ea v).1 → 0 ≤ (lb ea v).1 ∧ (lb ea v).1 ≤ (lb ea v).1) := Lib.hid (fun v _ h => ⟨h, Int.le_refl _⟩)
        clear b8 hM7 HE4
        have HRM := Lib.hid (rr_any n0 (l ++ [x]) G cg (m + 1) w8 hlen hM8.out false ⟨fun h => (by cases h), fun h => absurd h HRm.out⟩)
        go_wp2_with fail
        refine HRM.out.mono ?_
        rintro e w9 ⟨rfl, b9⟩
        have HW9 := Lib.hid (HW8.out.trans (b9.mono HW8.out.size))
        have LA := Lib.hid (And.intro ((LA.out.2.1.below b9).more b9.size) LA.out.2.2)
        have LB := Lib.hid (And.intro ((LB.out.2.1.below b9).more b9.size) LB.out.2.2)
        have LC := Lib.hid (And.intro ((LC.out.2.1.below b9).more b9.size) LC.out.2.2)
        have LD := Lib.hid (And.intro ((LD.out.2.1.below b9).more b9.size) LD.out.2.2)
        clear b9 HRM hM8
        go_wp2_with fail
        go_loopw [23] (fun iv wr => ∃ i : Nat, iv = .int .i64 i ∧ i ≤ n0 ∧ Hid (Below w9.heap.size w9 wr)) (fun iv _ => n0 - (intOf iv).toNat)
        case atStart => exact ⟨0, rfl, by omega, Lib.hid (Below.refl _ _)⟩
        case round =>
          obtain ⟨i, rfl, hi, hB⟩ := hrel
          by_cases hgo : i < n0
          · have d1 := ((LA.out.1.below hB.out).get LA.out.2 hgo).1
            have d2 := ((LB.out.1.below hB.out).get LB.out.2 hgo).1
            have d3 := ((LC.out.1.below hB.out).get LC.out.2 hgo).1
            have d4 : True := trivial
            have g1 := HGA.out i hgo
            have g2 := HGC.out i hgo
            have g3 := HGD.out i hgo
            obtain ⟨ya, hya⟩ : ∃ y, (lb ea i).1 = y := ⟨_, rfl⟩
            obtain ⟨yb, hyb⟩ : ∃ y, (lb eb i).1 = y := ⟨_, rfl⟩
            obtain ⟨yc, hyc⟩ : ∃ y, (lb ec i).1 = y := ⟨_, rfl⟩
            rw [hya] at d1 g1 g2 g3
            rw [hyb] at d2 g1
            rw [hyc] at d3 g2
            have S1 := Lib.hid (fun d => (sooner_any yb ya (wr.drewN d) true (decide_eq_true (show ya < 0 ∨ (0 ≤ yb ∧ yb ≤ ya) by omega)).symm).mono (R' := fun e w' => e = .returned (.bool true) ∧ w' = wr.drewN d) (fun _ _ ⟨a, b⟩ => ⟨a, b.symm⟩))
            have S2 := Lib.hid (fun d => (sooner_any ya yc (wr.drewN d) true (decide_eq_true (show yc < 0 ∨ (0 ≤ ya ∧ ya ≤ yc) by omega)).symm).mono (R' := fun e w' => e = .returned (.bool true) ∧ w' = wr.drewN d) (fun _ _ ⟨a, b⟩ => ⟨a, b.symm⟩))
            have S3 := Lib.hid (fun d => (sooner_any ya ya (wr.drewN d) true (decide_eq_true (show ya < 0 ∨ (0 ≤ ya ∧ ya ≤ ya) by omega)).symm).mono (R' := fun e w' => e = .returned (.bool true) ∧ w' = wr.drewN d) (fun _ _ ⟨a, b⟩ => ⟨a, b.symm⟩))
            clear g1 g2 g3 hya hyb hyc d4
            go_upto_region 18 with fail
            go_quiet ((go_at_call 25; (first | with_reducible exact Calls.quiet_of_same (S1.out _) | with_reducible exact Calls.quiet_of_same (S2.out _) | with_reducible exact Calls.quiet_of_same (S3.out _))))
            go_wp2_with fail
            go_roundw
            case rel => exact ⟨i + 1, rfl, by omega, Lib.hid (below_drewN hB.out _)⟩
            case measure => simp [intOf]; omega
          · have e : i = n0 := by omega
            subst e
            go_wp2_with fail
            go_ret
            exact ⟨rfl, HW9.out.trans (hB.out.mono HW9.out.size)⟩

end Go.Proofs.Yteiojobgjdfdpaa
