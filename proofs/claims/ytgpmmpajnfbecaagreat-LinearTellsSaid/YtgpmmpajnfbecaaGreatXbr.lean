/- Walk of holds. Rows of the reference; what a loop over the elements of a row has. Walk of divided. -/
import Derived.Test.YtgpmmpajnfbecaaGreatXbq
import Derived.Test.YtgpmmpajnfbecaaGreatXbg

namespace Go.Proofs.YtgpmmpajnfbecaaGreat
open Go.RowKit

/-- The sum of the first products, if there is room. -/
def sumTo (us xs : List Rat) : Nat → Option Rat
  | 0 => some 0
  | k + 1 => (sumTo us xs k).bind fun s => (oMul (us.getD k 0) (xs.getD k 0)).bind (oAdd s)
theorem sumTo_no {us xs : List Rat} {k n : Nat} (h : sumTo us xs k = none) (hk : k ≤ n) : sumTo us xs n = none := by
  induction n with
  | zero => have : k = 0 := by omega
            subst this; exact h
  | succ n ih =>
    by_cases hkn : k ≤ n
    · rw [sumTo, ih hkn]; rfl
    · have : k = n + 1 := by omega
      subst this; exact h
theorem sumTo_mul {us xs : List Rat} {k : Nat} {s a x : Rat} (h : sumTo us xs k = some s) (ha : us.getD k 0 = a) (hx : xs.getD k 0 = x) (hm : ¬ okMul a x) : sumTo us xs (k + 1) = none := by
  rw [sumTo, h, Option.bind_some, ha, hx, oMul_no hm]; rfl
theorem oAdd_yes {x y : Rat} (h : okAdd x y) : oAdd x y = some (x + y) := if_pos h
theorem oAdd_no {x y : Rat} (h : ¬ okAdd x y) : oAdd x y = none := if_neg h
theorem sumTo_add {us xs : List Rat} {k : Nat} {s a x : Rat} (h : sumTo us xs k = some s) (ha : us.getD k 0 = a) (hx : xs.getD k 0 = x) (hm : okMul a x) (hs : ¬ okAdd s (a * x)) : sumTo us xs (k + 1) = none := by
  rw [sumTo, h, Option.bind_some, ha, hx, oMul_yes hm, Option.bind_some, oAdd_no hs]
theorem sumTo_yes {us xs : List Rat} {k : Nat} {s a x : Rat} (h : sumTo us xs k = some s) (ha : us.getD k 0 = a) (hx : xs.getD k 0 = x) (hm : okMul a x) (hs : okAdd s (a * x)) : sumTo us xs (k + 1) = some (s + a * x) := by
  rw [sumTo, h, Option.bind_some, ha, hx, oMul_yes hm, Option.bind_some, oAdd_yes hs]
theorem q_getD {l : List Fd} {i : Nat} (h : i < l.length) : (l.map Fd.q).getD i 0 = (l.getD i dnil).q := by
  rw [List.getD_eq_getElem?_getD, List.getD_eq_getElem?_getD, List.getElem?_map]
  rw [List.getElem?_eq_getElem h]
  rfl

theorem number_0 (w : World) : Calls Tryz.prog 26 #[.int .i64 0] w fun e w' => ∃ f : Fc, e = .returned f.v ∧ FO w' w.heap.size f.v (0 : Rat).num (0 : Rat).den ∧ Rb (0 : Rat) 60 60 ∧ Below w.heap.size w w' :=
  (number_fr 0 w (by decide) (by decide) (by rw [ab_zero]; exact pw_pos 60)).mono fun _ _ h => h
theorem number_1 (w : World) : Calls Tryz.prog 26 #[.int .i64 1] w fun e w' => ∃ f : Fc, e = .returned f.v ∧ FO w' w.heap.size f.v (1 : Rat).num (1 : Rat).den ∧ Rb (1 : Rat) 60 60 ∧ Below w.heap.size w w' :=
  (number_fr 1 w (by decide) (by decide) (by decide)).mono fun _ _ h => h

/-- What the loop of holds has. -/
structure HoI (w wr : World) (G2 G5 : Nat) (row : Array Value) (f : Fc) (us xs : List Rat) (s : Rat) (i : Nat) : Prop where
  bl : Below w.heap.size w wr
  k2 : Blk wr G2 43 row
  k5 : Blk wr G5 41 #[.int .i64 f.s, .slice f.A f.n f.c, .int .i64 f.s', .slice f.A' f.n' f.c']
  h2 : w.heap.size ≤ G2
  h5 : G2 < G5
  fa : FA (fun b => b = G5) wr f s
  run : sumTo us xs i = some s
theorem HoI.below {w wr wq : World} {G2 G5 : Nat} {row : Array Value} {f : Fc} {us xs : List Rat} {s : Rat} {i : Nat} (h : HoI w wr G2 G5 row f us xs s i) (hb : Below wr.heap.size wr wq) : HoI w wq G2 G5 row f us xs s i :=
  ⟨h.bl.trans (hb.mono h.bl.size), h.k2.below hb h.k2.lt, h.k5.below hb h.k5.lt, h.h2, h.h5, h.fa.below hb, h.run⟩
theorem st4_block {w : World} {g b p q r t : Nat} {u0 u1 u2 u3 : Value} (h : b ≠ g) : ((((w.setCell ⟨g, p, none⟩ u0).setCell ⟨g, q, none⟩ u1).setCell ⟨g, r, none⟩ u2).setCell ⟨g, t, none⟩ u3).heap[b]? = w.heap[b]? :=
  (Below.heap_setCell _ _ _ b h).trans ((Below.heap_setCell _ _ _ b h).trans ((Below.heap_setCell _ _ _ b h).trans (Below.heap_setCell _ _ _ b h)))
/-- The sum is stored. -/
theorem HoI.put {w wr w1 : World} {G2 G5 : Nat} {row : Array Value} {f q : Fc} {us xs : List Rat} {s s' : Rat} {i : Nat} (h : HoI w wr G2 G5 row f us xs s i) (hb : Below wr.heap.size wr w1) (ho : FO w1 wr.heap.size q.v s'.num s'.den) (hr : Rb s' 60 60) (hrun : sumTo us xs (i + 1) = some s') :
    HoI w ((((w1.setCell ⟨G5, 0, none⟩ (.int .i64 q.s)).setCell ⟨G5, 1, none⟩ (.slice q.A q.n q.c)).setCell ⟨G5, 2, none⟩ (.int .i64 q.s')).setCell ⟨G5, 3, none⟩ (.slice q.A' q.n' q.c')) G2 G5 row q us xs s' (i + 1) :=
  ⟨below_st4 (h.bl.trans (hb.mono h.bl.size)) (by have := h.h2; have := h.h5; omega) _ _ _ _, (st4_block (by have := h.h5; omega)).trans (h.k2.below hb h.k2.lt), (h.k5.below hb h.k5.lt).set4 _ _ _ _, h.h2, h.h5,
    fa_st (f := q) (N := wr.heap.size) (h.k5.below hb h.k5.lt) ho h.k5.lt (fun b hb => by subst hb; exact h.k5.lt) (Nat.le_refl _) hr, hrun⟩

set_option maxRecDepth 100000 in
set_option maxHeartbeats 8000000 in
theorem lholds_any {Aa Ax : Option Addr} {n ca cx : Nat} {us xs : List Fd} {f : Fc} {d : Fd} (w : World) (ha : FdsAt w Aa us) (han : us.length = n) (hx : FdsAt w Ax xs) (hxn : xs.length = n) (hn : n ≤ 1000) (hf : FdIs w f d)
    (hra : ∀ k, k < n → (us.getD k dnil).R) (hrx : ∀ k, k < n → (xs.getD k dnil).R) (hrd : d.R) :
    Calls Tryz.prog 33 #[.agg #[.slice Aa n ca, .int .i64 f.s, .slice f.A f.n f.c, .int .i64 f.s', .slice f.A' f.n' f.c'], .slice Ax n cx] w fun e w' => e = .returned (.bool (decide (sumTo (us.map Fd.q) (xs.map Fd.q) n = some d.q))) ∧ Below w.heap.size w w' := by
  have HU := Lib.hid ha; clear ha
  have HX := Lib.hid hx; clear hx
  have HUN := Lib.hid han; clear han
  have HXN := Lib.hid hxn; clear hxn
  have HF := Lib.hid (fd_fa hf hrd); clear hf
  have HRA := Lib.hid hra; clear hra
  have HRX := Lib.hid hrx; clear hrx
  obtain ⟨s1, A1, n1, c1, s2, A2, n2, c2⟩ := f
  obtain ⟨B, hB⟩ : ∃ B, decide (sumTo (us.map Fd.q) (xs.map Fd.q) n = some d.q) = B := ⟨_, rfl⟩
  simp only [hB]
  have HB := Lib.hid hB; clear hB
  go_enter Tryz.func33, Tryz.ntmps33
  go_wp2_with fail
  have hb0 : Below w.heap.size w (w.alloc (.cells #[.slice Aa n ca, .int .i64 s1, .slice A1 n1 c1, .int .i64 s2, .slice A2 n2 c2] 43)) := (Below.refl _ _).alloc (Nat.le_refl _) _
  have k0 := Blk.new w 43 #[.slice Aa n ca, .int .i64 s1, .slice A1 n1 c1, .int .i64 s2, .slice A2 n2 c2]
  generalize w.alloc (.cells #[.slice Aa n ca, .int .i64 s1, .slice A1 n1 c1, .int .i64 s2, .slice A2 n2 c2] 43) = W0 at *
  (with_reducible refine (number_0 _).mono ?_)
  rintro e w1 ⟨⟨t1, B1, m1, e1, t2, B2, m2, e2⟩, rfl, ho, rb, hb1⟩
  have k1 := k0.below hb1 k0.lt
  have hbl1 := hb0.trans (hb1.mono hb0.size)
  have hbA : Below w1.heap.size w1 (w1.alloc (.cells #[.int .i64 t1, .slice B1 m1 e1, .int .i64 t2, .slice B2 m2 e2] 41)) := (Below.refl _ _).alloc (Nat.le_refl _) _
  have hst : HoI w (w1.alloc (.cells #[.int .i64 t1, .slice B1 m1 e1, .int .i64 t2, .slice B2 m2 e2] 41)) w.heap.size w1.heap.size #[.slice Aa n ca, .int .i64 s1, .slice A1 n1 c1, .int .i64 s2, .slice A2 n2 c2] ⟨t1, B1, m1, e1, t2, B2, m2, e2⟩ (us.map Fd.q) (xs.map Fd.q) 0 0 :=
    ⟨hbl1.trans (hbA.mono hbl1.size), k1.below hbA k1.lt, Blk.new _ _ _, Nat.le_refl _, k1.lt, ((FA.own (S := fun _ => False) (f := ⟨t1, B1, m1, e1, t2, B2, m2, e2⟩) ho (fun _ h => h.elim) rb).up.less (fun b hb => .inr (Nat.le_of_eq hb.symm))).below hbA, rfl⟩
  have HST := Lib.hid hst
  obtain ⟨G2, hG2⟩ : ∃ G, w.heap.size = G := ⟨_, rfl⟩
  obtain ⟨G5, hG5⟩ : ∃ G, w1.heap.size = G := ⟨_, rfl⟩
  rw [hG2, hG5] at HST
  rw [hG2]
  clear hst hbA hbl1 k1 hb1 ho rb k0 hb0
  obtain ⟨W1, hW1⟩ : ∃ W, w1.alloc (.cells #[.int .i64 t1, .slice B1 m1 e1, .int .i64 t2, .slice B2 m2 e2] 41) = W := ⟨_, rfl⟩
  rw [hW1] at HST
  have r0 := HST.out.k2.cell 0
  simp at r0
  go_wp2_with fail
  clear r0 hW1 hG5
  go_loopw [14] (fun iv wr => ∃ (i : Nat) (s : Rat) (f : Fc), i ≤ n ∧ iv = .int .i64 i ∧ Hid (HoI w wr G2 G5 #[.slice Aa n ca, .int .i64 s1, .slice A1 n1 c1, .int .i64 s2, .slice A2 n2 c2] f (us.map Fd.q) (xs.map Fd.q) s i)) (fun iv _ => n - (intOf iv).toNat)
  case atStart => exact ⟨0, 0, _, Nat.zero_le _, rfl, HST⟩
  case round =>
    obtain ⟨i, s, f, hi, rfl, hI⟩ := hrel
    clear HST
    by_cases hgo : i < n
    · obtain ⟨ba, offa, fa, hA, hBa, c0, c1, c2, c3, hfa⟩ := (HU.out.below hI.out.bl) i (by rw [HUN.out]; exact hgo)
      subst hA
      have hra := HRA.out i hgo
      obtain ⟨s3, A3, n3, e3, s4, A4, n4, e4⟩ := fa
      simp only at c0 c1 c2 c3
      have haF := (fd_fa hfa hra)
      have hbA : Below wr.heap.size wr (wr.alloc (.cells #[.int .i64 s3, .slice A3 n3 e3, .int .i64 s4, .slice A4 n4 e4] 41)) := (Below.refl _ _).alloc (Nat.le_refl _) _
      have kA := Blk.new wr 41 #[.int .i64 s3, .slice A3 n3 e3, .int .i64 s4, .slice A4 n4 e4]
      have hIA := hI.out.below hbA
      have haA := haF.below hbA
      clear hfa haF hI
      go_wp2_with fail
      clear c0 c1 c2 c3
      obtain ⟨GA, hGA⟩ : ∃ G, wr.heap.size = G := ⟨_, rfl⟩
      rw [hGA] at kA ⊢
      generalize wr.alloc (.cells #[.int .i64 s3, .slice A3 n3 e3, .int .i64 s4, .slice A4 n4 e4] 41) = W2 at *
      clear hGA hbA
      have hIA' := Lib.hid hIA
      obtain ⟨bx, offx, fx, hxA, hBx, x0, x1, x2, x3, hfx⟩ := (HX.out.below hIA.bl) i (by rw [HXN.out]; exact hgo)
      subst hxA
      have hrx := HRX.out i hgo
      obtain ⟨s5, A5, n5, e5, s6, A6, n6, e6⟩ := fx
      simp only at x0 x1 x2 x3
      have hxF := fd_fa hfx hrx
      have e0 : ∀ W' : World, Below W2.heap.size W2 W' → W'.cell? ⟨bx, offx + i * 4, none⟩ = some (.int .i64 s5) ∧ W'.cell? ⟨bx, offx + i * 4 + 1, none⟩ = some (.slice A5 n5 e5) ∧ W'.cell? ⟨bx, offx + i * 4 + 2, none⟩ = some (.int .i64 s6) ∧ W'.cell? ⟨bx, offx + i * 4 + 3, none⟩ = some (.slice A6 n6 e6) ∧ W'.cell? ⟨GA, 0, none⟩ = some (.int .i64 s3) ∧ W'.cell? ⟨GA, 1, none⟩ = some (.slice A3 n3 e3) ∧ W'.cell? ⟨GA, 2, none⟩ = some (.int .i64 s4) ∧ W'.cell? ⟨GA, 3, none⟩ = some (.slice A4 n4 e4) ∧ Below W2.heap.size W2 W' := fun W' hW =>
        ⟨(hW.cell (p := ⟨bx, _, none⟩) hBx).trans x0, (hW.cell (p := ⟨bx, _, none⟩) hBx).trans x1, (hW.cell (p := ⟨bx, _, none⟩) hBx).trans x2, (hW.cell (p := ⟨bx, _, none⟩) hBx).trans x3, (kA.below hW kA.lt).cell 0, (kA.below hW kA.lt).cell 1, (kA.below hW kA.lt).cell 2, (kA.below hW kA.lt).cell 3, hW⟩
      have E0 := Lib.hid e0; clear e0
      have hB00 : Below W2.heap.size W2 W2.drew := (Below.refl _ _).drew
      have hqa := Lib.hid (q_getD (l := us) (i := i) (by rw [HUN.out]; exact hgo))
      have hqx := Lib.hid (q_getD (l := xs) (i := i) (by rw [HXN.out]; exact hgo))
      obtain ⟨qa, hqae⟩ : ∃ q, (us.getD i dnil).q = q := ⟨_, rfl⟩
      obtain ⟨qx, hqxe⟩ : ∃ q, (xs.getD i dnil).q = q := ⟨_, rfl⟩
      rw [hqae] at hqa haA
      rw [hqxe] at hqx hxF
      clear hqae hqxe hra hrx hfx hIA
      by_cases hom : okMul qa qx
      · have HSB := Lib.hid (fun (W' : World) (hb : Below W2.heap.size W2 W') => fmul_y (haA.below hb) (hxF.below hb) hom)
        clear haA hxF kA x0 x1 x2 x3
        go_cut [8, 9] from 19 to 27 (fun p e wx => ∃ (G8 : Nat) (r1 : Int) (C1 : Option Addr) (k1 l1 : Nat) (r2 : Int) (C2 : Option Addr) (k2 l2 : Nat), p = .pointer (some ⟨G8, 0, none⟩) ∧ e = .int .i64 0 ∧ Blk wx G8 41 #[.int .i64 r1, .slice C1 k1 l1, .int .i64 r2, .slice C2 k2 l2] ∧ FA (fun _ => False) wx ⟨r1, C1, k1, l1, r2, C2, k2, l2⟩ (qa * qx) ∧ Below W2.heap.size W2 wx)
        case first =>
          go_region_held3 (fun W' => W'.cell? ⟨bx, offx + i * 4, none⟩ = some (.int .i64 s5) ∧ W'.cell? ⟨bx, offx + i * 4 + 1, none⟩ = some (.slice A5 n5 e5) ∧ W'.cell? ⟨bx, offx + i * 4 + 2, none⟩ = some (.int .i64 s6) ∧ W'.cell? ⟨bx, offx + i * 4 + 3, none⟩ = some (.slice A6 n6 e6) ∧ W'.cell? ⟨GA, 0, none⟩ = some (.int .i64 s3) ∧ W'.cell? ⟨GA, 1, none⟩ = some (.slice A3 n3 e3) ∧ W'.cell? ⟨GA, 2, none⟩ = some (.int .i64 s4) ∧ W'.cell? ⟨GA, 3, none⟩ = some (.slice A4 n4 e4) ∧ Below W2.heap.size W2 W')
            (first | exact E0.out _ (below_st4 hB4 (Nat.le_refl _) _ _ _ _) | exact E0.out _ (below_new hB4 _) | exact E0.out _ (below_new hB00 _) | exact E0.out _ (by assumption) | exact E0.out _ ⟨rfl, rfl, rfl, Nat.le_refl _, fun _ _ => rfl⟩)
            (first
              | (go_at_call 61; (first | refine (HSB.out _ hB00).mono ?_ | refine (HSB.out _ (below_new hB00 _)).mono ?_); rintro e w4 ⟨⟨r1, C1, k1, l1, r2, C2, k2, l2⟩, rfl, hro, hrb, hb4⟩; have hB4 : Below W2.heap.size W2 w4 := (by first | exact ⟨hb4.os, hb4.tape, hb4.output, hb4.size, hb4.block⟩ | exact (below_new hB00 _).trans (hb4.mono (below_new hB00 _).size)); (try (have hk4 : Blk w4 W2.heap.size 41 #[.int .i64 0, .slice none 0 0, .int .i64 0, .slice none 0 0] := blk_run4 (b := W2.drew) hb4; have hlt4 := hk4.lt; have z0 := hk4.cell 0; have z1 := hk4.cell 1; have z2 := hk4.cell 2; have z3 := hk4.cell 3; have y0 := hk4.frozen 0; have y1 := hk4.frozen 1; have y2 := hk4.frozen 2; have y3 := hk4.frozen 3))))
          all_goals
            go_wp2_with fail
            go_meet
            first
              | exact ⟨_, r1, C1, k1, l1, r2, C2, k2, l2, rfl, rfl, hk4.set4 _ _ _ _, fa_st (f := ⟨r1, C1, k1, l1, r2, C2, k2, l2⟩) hk4 hro (by simp) (fun _ h => h.elim) (by first | exact hB00.size | exact (below_new hB00 _).size) hrb, below_st4 hB4 (Nat.le_refl _) _ _ _ _⟩
              | exact ⟨_, r1, C1, k1, l1, r2, C2, k2, l2, rfl, rfl, Blk.new _ _ _, fa_new (f := ⟨r1, C1, k1, l1, r2, C2, k2, l2⟩) hro (fun _ h => h.elim) (by first | exact hB00.size | exact (below_new hB00 _).size) hrb _, below_new hB4 _⟩
        obtain ⟨G8, r1, C1, k1, l1, r2, C2, k2, l2, rfl, rfl, k8, hq8, hb5⟩ := hcut
        clear E0 hB00 HSB
        have hI5 := hIA'.out.below hb5
        clear hIA'
        obtain ⟨s7, A7, n7, e7, s8, A8, n8, e8⟩ := f
        have a0 := hI5.k5.cell 0
        have a1 := hI5.k5.cell 1
        have a2 := hI5.k5.cell 2
        have a3 := hI5.k5.cell 3
        have q0 := k8.cell 0
        have q1 := k8.cell 1
        have q2 := k8.cell 2
        have q3 := k8.cell 3
        simp at a0 a1 a2 a3 q0 q1 q2 q3
        have HI5 := Lib.hid hI5
        have hfs := hI5.fa
        clear hI5 k8
        go_wp2_with fail
        clear a0 a1 a2 a3 q0 q1 q2 q3
        by_cases hos : okAdd s (qa * qx)
        · (with_reducible refine (fadd_y hfs hq8 hos).mono ?_)
          rintro e w6 ⟨⟨t1, B1, m1, e1, t2, B2, m2, e2⟩, rfl, ho6, rb6, hb6⟩
          have hk6 := HI5.out.k5.below hb6 HI5.out.k5.lt
          have z0 := hk6.cell 0
          have z1 := hk6.cell 1
          have z2 := hk6.cell 2
          have z3 := hk6.cell 3
          have y0 := hk6.frozen 0
          have y1 := hk6.frozen 1
          have y2 := hk6.frozen 2
          have y3 := hk6.frozen 3
          simp at z0 z1 z2 z3
          have hlt6 := hk6.lt
          have HN := Lib.hid (HI5.out.put hb6 ho6 rb6 (sumTo_yes HI5.out.run hqa.out hqx.out hom hos))
          clear hfs hq8 ho6 rb6 hb6 HI5 hk6
          go_wp2_with fail
          go_roundw
          case rel => exact ⟨i + 1, _, _, by omega, rfl, HN⟩
          case measure => simp [intOf]; omega
        · (with_reducible refine (fadd_n hfs hq8 hos).mono ?_)
          rintro e w6 ⟨rfl, hb6⟩
          have hk6 := HI5.out.k5.below hb6 HI5.out.k5.lt
          have z0 := hk6.cell 0
          have z1 := hk6.cell 1
          have z2 := hk6.cell 2
          have z3 := hk6.cell 3
          have y0 := hk6.frozen 0
          have y1 := hk6.frozen 1
          have y2 := hk6.frozen 2
          have y3 := hk6.frozen 3
          simp at z0 z1 z2 z3
          have hlt6 := hk6.lt
          have hbf : Hid (B = false) := Lib.hid (by rw [← HB.out, sumTo_no (sumTo_add HI5.out.run hqa.out hqx.out hom hos) hgo]; rfl)
          have hfin := Lib.hid (HI5.out.bl.trans (hb6.mono HI5.out.bl.size))
          have hge := Lib.hid (show w.heap.size ≤ G5 by have := HI5.out.h2; have := HI5.out.h5; omega)
          clear hfs hq8 hb6 HI5 hk6
          go_wp2_with fail
          go_ret
          exact ⟨by rw [hbf.out]; rfl, below_st4 hfin.out hge.out _ _ _ _⟩
      · have HSB := Lib.hid (fun (W' : World) (hb : Below W2.heap.size W2 W') => fmul_n (haA.below hb) (hxF.below hb) hom)
        have hbf : Hid (B = false) := Lib.hid (by rw [← HB.out, sumTo_no (sumTo_mul hIA'.out.run hqa.out hqx.out hom) hgo]; rfl)
        have hbl := Lib.hid hIA'.out.bl
        clear haA hxF kA x0 x1 x2 x3 hIA'
        go_cut [8, 9] from 19 to 27 (fun p e wx => e = .int .i64 6 ∧ Below W2.heap.size W2 wx)
        case first =>
          go_region_held3 (fun W' => W'.cell? ⟨bx, offx + i * 4, none⟩ = some (.int .i64 s5) ∧ W'.cell? ⟨bx, offx + i * 4 + 1, none⟩ = some (.slice A5 n5 e5) ∧ W'.cell? ⟨bx, offx + i * 4 + 2, none⟩ = some (.int .i64 s6) ∧ W'.cell? ⟨bx, offx + i * 4 + 3, none⟩ = some (.slice A6 n6 e6) ∧ W'.cell? ⟨GA, 0, none⟩ = some (.int .i64 s3) ∧ W'.cell? ⟨GA, 1, none⟩ = some (.slice A3 n3 e3) ∧ W'.cell? ⟨GA, 2, none⟩ = some (.int .i64 s4) ∧ W'.cell? ⟨GA, 3, none⟩ = some (.slice A4 n4 e4) ∧ Below W2.heap.size W2 W')
            (first | exact E0.out _ (below_st4 hB4 (Nat.le_refl _) _ _ _ _) | exact E0.out _ (below_new hB4 _) | exact E0.out _ (below_new hB00 _) | exact E0.out _ (by assumption) | exact E0.out _ ⟨rfl, rfl, rfl, Nat.le_refl _, fun _ _ => rfl⟩)
            (first
              | (go_at_call 61; (first | refine (HSB.out _ hB00).mono ?_ | refine (HSB.out _ (below_new hB00 _)).mono ?_); rintro e w4 ⟨⟨r1, C1, k1, l1, r2, C2, k2, l2⟩, rfl, hb4⟩; have hB4 : Below W2.heap.size W2 w4 := (by first | exact ⟨hb4.os, hb4.tape, hb4.output, hb4.size, hb4.block⟩ | exact (below_new hB00 _).trans (hb4.mono (below_new hB00 _).size)); (try (have hk4 : Blk w4 W2.heap.size 41 #[.int .i64 0, .slice none 0 0, .int .i64 0, .slice none 0 0] := blk_run4 (b := W2.drew) hb4; have hlt4 := hk4.lt; have z0 := hk4.cell 0; have z1 := hk4.cell 1; have z2 := hk4.cell 2; have z3 := hk4.cell 3; have y0 := hk4.frozen 0; have y1 := hk4.frozen 1; have y2 := hk4.frozen 2; have y3 := hk4.frozen 3))))
          all_goals
            go_wp2_with fail
            go_meet
            first
              | exact ⟨rfl, below_st4 hB4 (Nat.le_refl _) _ _ _ _⟩
              | exact ⟨rfl, below_new hB4 _⟩
        obtain ⟨rfl, hb5⟩ := hcut
        clear E0 hB00 HSB
        go_wp2_with fail
        go_ret
        exact ⟨by rw [hbf.out]; rfl, hbl.out.trans (hb5.mono hbl.out.size)⟩
    · have : i = n := by omega
      subst this
      obtain ⟨s7, A7, n7, e7, s8, A8, n8, e8⟩ := f
      have a0 := hI.out.k5.cell 0
      have a1 := hI.out.k5.cell 1
      have a2 := hI.out.k5.cell 2
      have a3 := hI.out.k5.cell 3
      have r1 := hI.out.k2.cell 1
      have r2 := hI.out.k2.cell 2
      have r3 := hI.out.k2.cell 3
      have r4 := hI.out.k2.cell 4
      simp at a0 a1 a2 a3 r1 r2 r3 r4
      have HI := Lib.hid hI.out
      have hfs := hI.out.fa
      have hfd := HF.out.below hI.out.bl
      clear hI
      go_wp2_with fail
      clear a0 a1 a2 a3 r1 r2 r3 r4
      (with_reducible refine (rcompare _ hfs.fv hfd.fv hfs.rb hfd.rb).mono ?_)
      rintro e w6 ⟨rfl, hb6⟩
      have hbt : Hid ((cmpR s d.q == 0) = B) := Lib.hid (by
        rw [← HB.out, HI.out.run]
        by_cases he : s = d.q
        · subst he
          rw [cmpR_zero.2 rfl]; simp
        · have hne : cmpR s d.q ≠ 0 := fun h => he (cmpR_zero.1 h)
          rw [beq_eq_false_iff_ne.2 hne]; simp [he])
      have hfin := Lib.hid (HI.out.bl.trans (hb6.mono HI.out.bl.size))
      clear hfs hfd HI
      go_wp2_with fail
      go_ret
      exact ⟨by rw [← hbt.out]; rfl, hfin.out⟩

end Go.Proofs.YtgpmmpajnfbecaaGreat

namespace Go.Proofs.YtgpmmpajnfbecaaGreat
open Go.RowKit

/-- A row that is read: its elements in a block outside T, all digits outside T. -/
structure RowIs (T : Nat → Prop) (w : World) (m : Nat) (r : Rw) (x : List Rat) : Prop where
  n : r.n = m
  len : x.length = m + 1
  a : ∃ (g : Nat) (cur : Array Value) (fs : List Fc), r.A = some ⟨g, 0, none⟩ ∧ ¬ T g ∧ Blk w g 41 cur ∧ CellsL cur fs ∧ fs.length = m ∧ ∀ j, j < m → FA T w (fs.getD j fnil) (x.getD j 0)
  v : FA T w r.f (x.getD m 0)
section
variable {T U : Nat → Prop} {w w' : World} {m : Nat} {r : Rw} {x : List Rat}
theorem RowIs.fr (h : RowIs T w m r x) (hf : Fr T w w') : RowIs T w' m r x := by
  obtain ⟨g, cur, fs, hA, hg, hB, hC, hl, hq⟩ := h.a
  exact ⟨h.n, h.len, ⟨g, cur, fs, hA, hg, hB.fr hf hg, hC, hl, fun j hj => (hq j hj).fr hf⟩, h.v.fr hf⟩
theorem RowIs.below (h : RowIs T w m r x) (hb : Below w.heap.size w w') : RowIs T w' m r x := h.fr (Fr.of_below hb)
theorem RowIs.less (h : RowIs T w m r x) (hT : ∀ b, U b → T b) : RowIs U w m r x := by
  obtain ⟨g, cur, fs, hA, hg, hB, hC, hl, hq⟩ := h.a
  exact ⟨h.n, h.len, ⟨g, cur, fs, hA, fun h => hg (hT _ h), hB, hC, hl, fun j hj => (hq j hj).less hT⟩, h.v.less hT⟩
theorem RowIs.up (h : RowIs T w m r x) : RowIs (fun b => T b ∨ w.heap.size ≤ b) w m r x := by
  obtain ⟨g, cur, fs, hA, hg, hB, hC, hl, hq⟩ := h.a
  exact ⟨h.n, h.len, ⟨g, cur, fs, hA, fun h => by
    rcases h with h | h
    · exact hg h
    · have := hB.lt
      omega, hB, hC, hl, fun j hj => (hq j hj).up⟩, h.v.up⟩
/-- The cells of an element. -/
theorem RowIs.cells (h : RowIs T w m r x) {j : Nat} (hj : j < m) : ∃ (g : Nat) (f : Fc), r.A = some ⟨g, 0, none⟩ ∧ g < w.heap.size ∧ ¬ T g ∧ w.cell? ⟨g, j * 4, none⟩ = some (.int .i64 f.s) ∧ w.cell? ⟨g, j * 4 + 1, none⟩ = some (.slice f.A f.n f.c) ∧ w.cell? ⟨g, j * 4 + 2, none⟩ = some (.int .i64 f.s') ∧ w.cell? ⟨g, j * 4 + 3, none⟩ = some (.slice f.A' f.n' f.c') ∧ FA T w f (x.getD j 0) := by
  obtain ⟨g, cur, fs, hA, hg, hB, hC, hl, hq⟩ := h.a
  obtain ⟨c0, c1, c2, c3⟩ := hC j (by omega)
  exact ⟨g, fs.getD j fnil, hA, hB.lt, hg, (hB.cell _).trans c0, (hB.cell _).trans c1, (hB.cell _).trans c2, (hB.cell _).trans c3, hq j hj⟩
/-- The elements as they lie. -/
theorem RowIs.fcs (h : RowIs T w m r x) : ∃ fs : List Fc, fs.length = m ∧ FcAt w r.A fs ∧ ∀ j, j < m → FA T w (fs.getD j fnil) (x.getD j 0) := by
  obtain ⟨g, cur, fs, hA, hg, hB, hC, hl, hq⟩ := h.a
  refine ⟨fs, hl, fun k hk => ?_, hq⟩
  obtain ⟨c0, c1, c2, c3⟩ := hC k hk
  exact ⟨g, 0, hA, hB.lt, by rw [Nat.zero_add, hB.cell]; exact c0, by rw [Nat.zero_add, hB.cell]; exact c1, by rw [Nat.zero_add, hB.cell]; exact c2, by rw [Nat.zero_add, hB.cell]; exact c3⟩
end
abbrev Rw.cs (r : Rw) : Array Value := #[.slice r.A r.n r.c, .int .i64 r.f.s, .slice r.f.A r.f.n r.f.c, .int .i64 r.f.s', .slice r.f.A' r.f.n' r.f.c']
abbrev Fc.cs (f : Fc) : Array Value := #[.int .i64 f.s, .slice f.A f.n f.c, .int .i64 f.s', .slice f.A' f.n' f.c']

/-- What the loop over the elements has: g is the block that is written. -/
structure RoI (T : Nat → Prop) (w wr : World) (m g N : Nat) (bxs : List (Nat × TypeId × Array Value)) (srcs : List (Rw × List Rat)) (frs : List (Fc × Rat)) (F : Nat → Rat → Option Rat) (x ys : List Rat) (fs : List Fc) (i : Nat) : Prop where
  bl : Below w.heap.size w wr
  bx : ∀ p, p ∈ bxs → Blk wr p.1 p.2.1 p.2.2 ∧ p.1 ≠ g ∧ w.heap.size ≤ p.1 ∧ p.1 < N
  line : ∃ cur, Blk wr g 41 cur ∧ CellsL cur fs
  fl : fs.length = m
  src : ∀ p, p ∈ srcs → RowIs (fun b => T b ∨ w.heap.size ≤ b ∧ b < N) wr m p.1 p.2
  fr : ∀ p, p ∈ frs → FA (fun b => T b ∨ w.heap.size ≤ b ∧ b < N) wr p.1 p.2
  q : ∀ j, j < i → FA (fun b => T b ∨ w.heap.size ≤ b ∧ b < N) wr (fs.getD j fnil) (ys.getD j 0)
  hp : Part F x ys i
  lo : w.heap.size ≤ g
  hi : g < N
  top : N ≤ wr.heap.size
section
variable {T : Nat → Prop} {w wr wq : World} {m g N : Nat} {bxs : List (Nat × TypeId × Array Value)} {srcs : List (Rw × List Rat)} {frs : List (Fc × Rat)} {F : Nat → Rat → Option Rat} {x ys : List Rat} {fs : List Fc} {i : Nat}
theorem RoI.below (h : RoI T w wr m g N bxs srcs frs F x ys fs i) (hb : Below wr.heap.size wr wq) : RoI T w wq m g N bxs srcs frs F x ys fs i := by
  obtain ⟨cur, hB, hC⟩ := h.line
  exact ⟨h.bl.trans (hb.mono h.bl.size), fun p hp => ⟨(h.bx p hp).1.below hb (h.bx p hp).1.lt, (h.bx p hp).2⟩, ⟨cur, hB.below hb hB.lt, hC⟩, h.fl, fun p hp => (h.src p hp).below hb, fun p hp => (h.fr p hp).below hb, fun j hj => (h.q j hj).below hb, h.hp, h.lo, h.hi, Nat.le_trans h.top hb.size⟩
/-- An element is stored. -/
theorem RoI.put (h : RoI T w wr m g N bxs srcs frs F x ys fs i) (hi : i < m) (hx : i < x.length) {q : Fc} {z : Rat} (hq : FA (fun b => T b ∨ w.heap.size ≤ b ∧ b < N) wr q z) (hz : F i (x.getD i 0) = some z) :
    ∃ V, V = (((wr.setCell ⟨g, i * 4, none⟩ (.int .i64 q.s)).setCell ⟨g, i * 4 + 1, none⟩ (.slice q.A q.n q.c)).setCell ⟨g, i * 4 + 2, none⟩ (.int .i64 q.s')).setCell ⟨g, i * 4 + 3, none⟩ (.slice q.A' q.n' q.c') ∧
      RoI T w V m g N bxs srcs frs F x (ys ++ [z]) (fs.set i q) (i + 1) := by
  obtain ⟨cur, hB, hC⟩ := h.line
  obtain ⟨V, cur', hV, hB', hC', hfr⟩ := CellsL.store hB hC (k := i) (by rw [h.fl]; exact hi) q
  have hU : Fr (fun b => T b ∨ w.heap.size ≤ b ∧ b < N) wr V := hfr.more (fun b hb => .inr (by subst hb; exact ⟨h.lo, h.hi⟩))
  refine ⟨V, hV, h.bl.trans (hfr.below (fun b hb => by subst hb; exact h.lo) h.bl.size), fun p hp => ⟨(h.bx p hp).1.fr hfr (h.bx p hp).2.1, (h.bx p hp).2⟩, ⟨cur', hB', hC'⟩, by rw [List.length_set]; exact h.fl, fun p hp => (h.src p hp).fr hU, fun p hp => (h.fr p hp).fr hU, fun j hj => ?_, h.hp.step hx hz, h.lo, h.hi, Nat.le_trans h.top hfr.size⟩
  by_cases hji : j = i
  · subst hji
    rw [getD_set_self (by rw [h.fl]; exact hi)]
    have e : (ys ++ [z]).getD j 0 = z := by rw [List.getD_eq_getElem?_getD, List.getElem?_append_right (by rw [h.hp.len]; exact Nat.le_refl _), h.hp.len, Nat.sub_self]; rfl
    rw [e]
    exact hq.fr hU
  · rw [getD_set_ne (Ne.symm hji), List.getD_eq_getElem?_getD (l := ys ++ [z]), List.getElem?_append_left (by rw [h.hp.len]; omega), ← List.getD_eq_getElem?_getD]
    exact (h.q j (by omega)).fr hU
/-- A new result lies outside. -/
theorem RoI.own (h : RoI T w wr m g N bxs srcs frs F x ys fs i) (hT : ∀ b, T b → b < w.heap.size) {w1 : World} {B : Nat} {f : Fc} {z : Rat} (ho : FO w1 B f.v z.num z.den) (hB : wr.heap.size ≤ B) (hr : Rb z 60 60) : FA (fun b => T b ∨ w.heap.size ≤ b ∧ b < N) w1 f z :=
  FA.own ho (fun b hb => by
    have := h.top
    rcases hb with hb | hb
    · have := hT b hb
      have := h.bl.size
      omega
    · omega) hr
theorem RoI.small (h : RoI T w wr m g N bxs srcs frs F x ys fs i) (hT : ∀ b, T b → b < w.heap.size) : ∀ b, (T b ∨ w.heap.size ≤ b ∧ b < N) → b < wr.heap.size := fun b hb => by
  have := h.top
  rcases hb with hb | hb
  · have := hT b hb
    have := h.bl.size
    omega
  · omega
/-- The row is done: its value is stored, and the row is copied. -/
theorem RoI.done (h : RoI T w wr m g N bxs srcs frs F x ys fs m) (hx : x.length = m + 1) {w1 V : World} {q : Fc} {z : Rat} {cap : Nat} (hb : Below wr.heap.size wr w1) (hq : FA (fun b => T b ∨ w.heap.size ≤ b ∧ b < N) w1 q z) (hz : F m (x.getD m 0) = some z)
    (hT : ∀ b, T b → b < w.heap.size) (hV : Fr (fun b => w.heap.size ≤ b ∧ b < N ∧ b ≠ g) w1 V) : Below w.heap.size w V ∧ mapO F 0 x = some (ys ++ [z]) ∧ RowIs T V m ⟨some ⟨g, 0, none⟩, m, cap, q⟩ (ys ++ [z]) := by
  have h1 := h.below hb
  have hU : Fr (fun b => T b ∨ w.heap.size ≤ b ∧ b < N) w1 V := hV.more (fun b hb => .inr ⟨hb.1, hb.2.1⟩)
  have hp := h1.hp.step (by omega) hz
  rw [← hx] at hp
  refine ⟨h1.bl.trans (hV.below (fun b hb => hb.1) h1.bl.size), hp.done, rfl, by rw [List.length_append, h1.hp.len]; rfl, ?_, ?_⟩
  · obtain ⟨cur, hB, hC⟩ := h1.line
    refine ⟨g, cur, fs, rfl, fun ht => by have := hT g ht; have := h.lo; omega, hB.fr hV (fun hn => hn.2.2 rfl), hC, h.fl, fun j hj => ?_⟩
    rw [List.getD_eq_getElem?_getD (l := ys ++ [z]), List.getElem?_append_left (by rw [h1.hp.len]; omega), ← List.getD_eq_getElem?_getD]
    exact ((h1.q j hj).fr hU).less (fun b hb => .inl hb)
  · have e : (ys ++ [z]).getD m 0 = z := by rw [List.getD_eq_getElem?_getD, List.getElem?_append_right (by rw [h1.hp.len]; exact Nat.le_refl _), h1.hp.len, Nat.sub_self]; rfl
    rw [e]
    exact (hq.fr hU).less (fun b hb => .inl hb)
end

end Go.Proofs.YtgpmmpajnfbecaaGreat

namespace Go.Proofs.YtgpmmpajnfbecaaGreat
open Go.RowKit

theorem dboxes (w : World) (a b : Array Value) (c : Array Value) (t u : TypeId) : ∃ W, ((w.alloc (.cells a t)).alloc (.cells b t)).alloc (.cells c u) = W ∧ Below w.heap.size w W ∧
    Blk W w.heap.size t a ∧ Blk W (w.heap.size + 1) t b ∧ Blk W (w.heap.size + 1 + 1) u c := by
  have h1 : Below w.heap.size w (w.alloc (.cells a t)) := (Below.refl _ _).alloc (Nat.le_refl _) _
  have h2 := h1.alloc h1.size (.cells b t)
  have h3 := h2.alloc h2.size (.cells c u)
  have k1 := Blk.new w t a
  have k2 := Blk.new (w.alloc (.cells a t)) t b
  have k3 := Blk.new ((w.alloc (.cells a t)).alloc (.cells b t)) u c
  simp only [World.size_alloc] at k2 k3
  exact ⟨_, rfl, h3, (k1.alloc _).alloc _, k2.alloc _, k3⟩

theorem fr_set (g k : Nat) (w : World) (u : Value) : Fr (· = g) w (w.setCell ⟨g, k, none⟩ u) := ⟨rfl, rfl, rfl, by simp, fun b _ hb => Below.heap_setCell _ _ _ b hb⟩
theorem fr_st4 (g : Nat) (w : World) (u0 u1 u2 u3 : Value) : Fr (· = g) w ((((w.setCell ⟨g, 1, none⟩ u0).setCell ⟨g, 2, none⟩ u1).setCell ⟨g, 3, none⟩ u2).setCell ⟨g, 4, none⟩ u3) :=
  (((fr_set g 1 w u0).tr (fr_set g 2 _ u1)).tr (fr_set g 3 _ u2)).tr (fr_set g 4 _ u3)
theorem fr_st5 (g : Nat) (w : World) (u0 u1 u2 u3 u4 : Value) : Fr (· = g) w (((((w.setCell ⟨g, 0, none⟩ u0).setCell ⟨g, 1, none⟩ u1).setCell ⟨g, 2, none⟩ u2).setCell ⟨g, 3, none⟩ u3).setCell ⟨g, 4, none⟩ u4) :=
  ((((fr_set g 0 w u0).tr (fr_set g 1 _ u1)).tr (fr_set g 2 _ u2)).tr (fr_set g 3 _ u3)).tr (fr_set g 4 _ u4)

theorem below_st5 {w W : World} {g : Nat} (h : Below w.heap.size w W) (hg : w.heap.size ≤ g) (u0 u1 u2 u3 u4 : Value) : Below w.heap.size w (((((W.setCell ⟨g, 0, none⟩ u0).setCell ⟨g, 1, none⟩ u1).setCell ⟨g, 2, none⟩ u2).setCell ⟨g, 3, none⟩ u3).setCell ⟨g, 4, none⟩ u4) :=
  h.trans ((fr_st5 g W u0 u1 u2 u3 u4).below (fun b hb => by subst hb; exact hg) h.size)

set_option maxRecDepth 100000 in
set_option maxHeartbeats 8000000 in
theorem divided_any {T : Nat → Prop} {w : World} {r : Rw} {m c : Nat} {x : List Rat} {y : Rat} (hr : RowIs T w m r x) (hc : c < m) (hm : m ≤ 1000) (hy : x.getD c 0 = y) (hy0 : y ≠ 0) (hT : ∀ b, T b → b < w.heap.size) :
    Calls Tryz.prog 41 #[r.v, .int .i64 m, .int .i64 c] w fun e w' => Below w.heap.size w w' ∧
      ((∃ (r' : Rw) (ys : List Rat), divL y x = some ys ∧ e = .returned (.tuple #[r'.v, .bool true]) ∧ RowIs T w' m r' ys) ∨ (divL y x = none ∧ ∃ r' : Rw, e = .returned (.tuple #[r'.v, .bool false]))) := by
  have HT := Lib.hid hT; clear hT
  have hlen := Lib.hid hr.len
  have hrn := hr.n
  have hru := hr.up
  obtain ⟨gx, fc, hA, hgx, hgT, c0, c1, c2, c3, hfc⟩ := hr.cells hc
  obtain ⟨fs, hfl, hfa, hfq⟩ := hr.fcs
  obtain ⟨A, n0, cp, f⟩ := r
  simp only at hrn hA hfa
  subst hrn hA
  obtain ⟨s1, A1, n1, d1, s2, A2, n2, d2⟩ := f
  obtain ⟨s3, A3, n3, d3, s4, A4, n4, d4⟩ := fc
  simp only at c0 c1 c2 c3
  have hcI : ((c : Nat) : Int) < ((n0 : Nat) : Int) := by omega
  go_enter Tryz.func41, Tryz.ntmps41
  go_upto_region 2 with fail
  clear c0 c1 c2 c3
  obtain ⟨W3, hW3, hbx, k3, k6, k8⟩ := dboxes w #[.slice (some ⟨gx, 0, none⟩) n0 cp, .int .i64 s1, .slice A1 n1 d1, .int .i64 s2, .slice A2 n2 d2] #[.slice none 0 0, .int .i64 0, .slice none 0 0, .int .i64 0, .slice none 0 0] #[.int .i64 s3, .slice A3 n3 d3, .int .i64 s4, .slice A4 n4 d4] 43 41
  rw [hW3]
  clear hW3
  have hru3 := hru.below hbx
  have hfc3 := (hfc.up).below hbx
  have hfa3 := hfa.below hbx
  have hfq3 := fun j hj => ((hfq j hj).up).below hbx
  have r0 := (k3.alloc (.cells #[] 41)).cell 0
  simp at r0
  have hl3 := k3.lt
  have hszW : w.heap.size + 1 + 1 < W3.heap.size := k8.lt
  have hBE : Below W3.heap.size W3 (W3.alloc (.cells #[] 41)) := (Below.refl _ _).alloc (Nat.le_refl _) _
  go_wp2_with (at_builtin; refine appF_at rfl (.tmp 20) (.tmp 22) rfl W3.heap.size _ [] fs (some ⟨gx, 0, none⟩) n0 cp rfl (emptyF W3 (Nat.le_refl _)) rfl hfl (hfa3.below hBE) (by simp; omega) (by simp) ?_; intro v4 w4 hown4 hg4 hat4; have hB4 : Below W3.heap.size W3 w4 := grown_belF hBE (emptyF W3 (Nat.le_refl _)) hg4 (Nat.le_refl _); obtain ⟨g4, cap4, cur4, hv4, hge4, hb4, hc4, -⟩ := hown4.blk (by rw [List.nil_append, hfl]; omega); rw [List.nil_append, hfl] at hv4; subst hv4)
  rw [List.nil_append] at hc4
  have hb9 : Below w4.heap.size w4 (w4.alloc (.cells #[.slice (some ⟨g4, 0, none⟩) n0 cap4, .int .i64 0, .slice none 0 0, .int .i64 0, .slice none 0 0] 43)) := (Below.refl _ _).alloc (Nat.le_refl _) _
  have hbW : Below W3.heap.size W3 (w4.alloc (.cells #[.slice (some ⟨g4, 0, none⟩) n0 cap4, .int .i64 0, .slice none 0 0, .int .i64 0, .slice none 0 0] 43)) := hB4.trans (hb9.mono hB4.size)
  have k9 := Blk.new w4 43 #[.slice (some ⟨g4, 0, none⟩) n0 cap4, .int .i64 0, .slice none 0 0, .int .i64 0, .slice none 0 0]
  have h4lt := hb4.lt
  have hst : RoI T w (w4.alloc (.cells #[.slice (some ⟨g4, 0, none⟩) n0 cap4, .int .i64 0, .slice none 0 0, .int .i64 0, .slice none 0 0] 43)) n0 g4 (w4.heap.size + 1)
      [(w.heap.size, 43, #[.slice (some ⟨gx, 0, none⟩) n0 cp, .int .i64 s1, .slice A1 n1 d1, .int .i64 s2, .slice A2 n2 d2]), (w.heap.size + 1, 43, #[.slice none 0 0, .int .i64 0, .slice none 0 0, .int .i64 0, .slice none 0 0]), (w.heap.size + 1 + 1, 41, #[.int .i64 s3, .slice A3 n3 d3, .int .i64 s4, .slice A4 n4 d4]), (w4.heap.size, 43, #[.slice (some ⟨g4, 0, none⟩) n0 cap4, .int .i64 0, .slice none 0 0, .int .i64 0, .slice none 0 0])]
      [(⟨some ⟨gx, 0, none⟩, n0, cp, ⟨s1, A1, n1, d1, s2, A2, n2, d2⟩⟩, x)] [(⟨s3, A3, n3, d3, s4, A4, n4, d4⟩, y)] (fun _ x => oDiv x y) x [] fs 0 :=
    ⟨hbx.trans (hbW.mono hbx.size), fun p hp => by
      have h4 := hb4.lt
      simp only [List.mem_cons, List.not_mem_nil, or_false] at hp
      rcases hp with rfl | rfl | rfl | rfl
      · exact ⟨k3.below hbW k3.lt, by simp only; omega, by simp only; omega, by simp only; omega⟩
      · exact ⟨k6.below hbW k6.lt, by simp only; omega, by simp only; omega, by simp only; omega⟩
      · exact ⟨k8.below hbW k8.lt, by simp only; omega, by simp only; omega, by simp only; omega⟩
      · exact ⟨k9, by simp only; omega, by simp only; omega, by simp only; omega⟩, ⟨cur4, hb4.below hb9 hb4.lt, hc4⟩, hfl, fun p hp => by
      simp only [List.mem_cons, List.not_mem_nil, or_false] at hp
      subst hp
      exact (hru3.below hbW).less (fun b hb => hb.elim .inl (fun hb => .inr hb.1)), fun p hp => by
      simp only [List.mem_cons, List.not_mem_nil, or_false] at hp
      subst hp
      have h := (hfc3.below hbW).less (T := fun b => T b ∨ w.heap.size ≤ b ∧ b < w4.heap.size + 1) (fun b hb => hb.elim .inl (fun hb => .inr hb.1))
      rw [hy] at h
      exact h, fun j hj => by omega, Part.start _ _, by omega, by omega, by simp⟩
  have HST := Lib.hid hst
  obtain ⟨G9, hG9⟩ : ∃ G, w4.heap.size = G := ⟨_, rfl⟩
  obtain ⟨G3, hG3⟩ : ∃ G, w.heap.size = G := ⟨_, rfl⟩
  rw [hG3, hG9] at HST ⊢
  obtain ⟨R3, hR3⟩ : ∃ R : Array Value, #[.slice (some ⟨gx, 0, none⟩) n0 cp, .int .i64 s1, .slice A1 n1 d1, .int .i64 s2, .slice A2 n2 d2] = R := ⟨_, rfl⟩
  have HG3 := Lib.hid hG3
  clear hst hb9 hbW k9 hb4 hc4 hge4 hB4 hg4 hat4 hown4 hbx k3 k6 k8 hru3 hfc3 hfa3 hfq3 r0 hl3 hszW hBE hG9 hG3 hr hru hfa hfq hfl hfc hR3
  generalize w4.alloc (.cells #[.slice (some ⟨g4, 0, none⟩) n0 cap4, .int .i64 0, .slice none 0 0, .int .i64 0, .slice none 0 0] 43) = W5 at *
  go_loopw [10] (fun iv wr => ∃ (i : Nat) (ys : List Rat) (fs : List Fc), i ≤ n0 ∧ iv = .int .i64 i ∧ Hid (RoI T w wr n0 g4 (G9 + 1)
      [(G3, 43, #[.slice (some ⟨gx, 0, none⟩) n0 cp, .int .i64 s1, .slice A1 n1 d1, .int .i64 s2, .slice A2 n2 d2]), (G3 + 1, 43, #[.slice none 0 0, .int .i64 0, .slice none 0 0, .int .i64 0, .slice none 0 0]), (G3 + 1 + 1, 41, #[.int .i64 s3, .slice A3 n3 d3, .int .i64 s4, .slice A4 n4 d4]), (G9, 43, #[.slice (some ⟨g4, 0, none⟩) n0 cap4, .int .i64 0, .slice none 0 0, .int .i64 0, .slice none 0 0])]
      [(⟨some ⟨gx, 0, none⟩, n0, cp, ⟨s1, A1, n1, d1, s2, A2, n2, d2⟩⟩, x)] [(⟨s3, A3, n3, d3, s4, A4, n4, d4⟩, y)] (fun _ x => oDiv x y) x ys fs i)) (fun iv _ => n0 - (intOf iv).toNat)
  case atStart => exact ⟨0, _, _, Nat.zero_le _, rfl, HST⟩
  case round =>
    obtain ⟨i, ys, fs', hi, rfl, hI⟩ := hrel
    clear HST
    have hU := Lib.hid (hI.out.small HT.out)
    have k3 := (hI.out.bx _ (.head _)).1
    have k8 := (hI.out.bx _ (.tail _ (.tail _ (.head _)))).1
    simp only at k3 k8
    have hby := hI.out.fr _ (.head _)
    have hsr := hI.out.src _ (.head _)
    simp only at hby hsr
    by_cases hgo : i < n0
    · obtain ⟨gx', fx, hgx', hgl, -, x0, x1, x2, x3, hfx⟩ := hsr.cells hgo
      simp only at hgx'
      injection hgx' with hgx'
      injection hgx' with hgx' _ _
      subst hgx'
      obtain ⟨s5, A5, n5, d5, s6, A6, n6, d6⟩ := fx
      simp only at x0 x1 x2 x3
      have e0 : ∀ W' : World, Below wr.heap.size wr W' → W'.cell? ⟨gx, i * 4, none⟩ = some (.int .i64 s5) ∧ W'.cell? ⟨gx, i * 4 + 1, none⟩ = some (.slice A5 n5 d5) ∧ W'.cell? ⟨gx, i * 4 + 2, none⟩ = some (.int .i64 s6) ∧ W'.cell? ⟨gx, i * 4 + 3, none⟩ = some (.slice A6 n6 d6) ∧ W'.cell? ⟨G3, 0, none⟩ = some (.slice (some ⟨gx, 0, none⟩) n0 cp) ∧ W'.cell? ⟨G3 + 1 + 1, 0, none⟩ = some (.int .i64 s3) ∧ W'.cell? ⟨G3 + 1 + 1, 1, none⟩ = some (.slice A3 n3 d3) ∧ W'.cell? ⟨G3 + 1 + 1, 2, none⟩ = some (.int .i64 s4) ∧ W'.cell? ⟨G3 + 1 + 1, 3, none⟩ = some (.slice A4 n4 d4) ∧ Below wr.heap.size wr W' := fun W' hW =>
        ⟨(hW.cell (p := ⟨gx, _, none⟩) hgl).trans x0, (hW.cell (p := ⟨gx, _, none⟩) hgl).trans x1, (hW.cell (p := ⟨gx, _, none⟩) hgl).trans x2, (hW.cell (p := ⟨gx, _, none⟩) hgl).trans x3, (k3.below hW k3.lt).cell 0, (k8.below hW k8.lt).cell 0, (k8.below hW k8.lt).cell 1, (k8.below hW k8.lt).cell 2, (k8.below hW k8.lt).cell 3, hW⟩
      have E0 := Lib.hid e0; clear e0
      have hB00 : Below wr.heap.size wr wr.drew := (Below.refl _ _).drew
      obtain ⟨qx, hqx⟩ : ∃ q, x.getD i 0 = q := ⟨_, rfl⟩
      rw [hqx] at hfx
      have HQX := Lib.hid hqx; clear hqx
      have hb01 : ((i : Nat) : Int) < ((n0 : Nat) : Int) := by omega
      go_upto_region 6 with fail
      by_cases hok : okDiv qx y
      · have HSB := Lib.hid (fun (W' : World) (hb : Below wr.heap.size wr W') => rfdiv_y (hfx.below hb) (hby.below hb) hy0 hok)
        clear hfx hby hsr k3 k8 x0 x1 x2 x3
        go_cut [11, 12] from 30 to 39 (fun p e wx => ∃ (G8 : Nat) (r1 : Int) (C1 : Option Addr) (k1 l1 : Nat) (r2 : Int) (C2 : Option Addr) (k2 l2 : Nat), p = .pointer (some ⟨G8, 0, none⟩) ∧ e = .int .i64 0 ∧ Blk wx G8 41 #[.int .i64 r1, .slice C1 k1 l1, .int .i64 r2, .slice C2 k2 l2] ∧ FA (fun b => T b ∨ w.heap.size ≤ b ∧ b < G9 + 1) wx ⟨r1, C1, k1, l1, r2, C2, k2, l2⟩ (qx / y) ∧ Below wr.heap.size wr wx)
        case first =>
          go_region_held3 (fun W' => W'.cell? ⟨gx, i * 4, none⟩ = some (.int .i64 s5) ∧ W'.cell? ⟨gx, i * 4 + 1, none⟩ = some (.slice A5 n5 d5) ∧ W'.cell? ⟨gx, i * 4 + 2, none⟩ = some (.int .i64 s6) ∧ W'.cell? ⟨gx, i * 4 + 3, none⟩ = some (.slice A6 n6 d6) ∧ W'.cell? ⟨G3, 0, none⟩ = some (.slice (some ⟨gx, 0, none⟩) n0 cp) ∧ W'.cell? ⟨G3 + 1 + 1, 0, none⟩ = some (.int .i64 s3) ∧ W'.cell? ⟨G3 + 1 + 1, 1, none⟩ = some (.slice A3 n3 d3) ∧ W'.cell? ⟨G3 + 1 + 1, 2, none⟩ = some (.int .i64 s4) ∧ W'.cell? ⟨G3 + 1 + 1, 3, none⟩ = some (.slice A4 n4 d4) ∧ Below wr.heap.size wr W')
            (first | exact E0.out _ (below_st4 hB4 (Nat.le_refl _) _ _ _ _) | exact E0.out _ (below_new hB4 _) | exact E0.out _ (below_new hB00 _) | exact E0.out _ (by assumption) | exact E0.out _ ⟨rfl, rfl, rfl, Nat.le_refl _, fun _ _ => rfl⟩)
            (first
              | (go_at_call 68; (first | refine (HSB.out _ hB00).mono ?_ | refine (HSB.out _ (below_new hB00 _)).mono ?_); rintro e w4 ⟨⟨r1, C1, k1, l1, r2, C2, k2, l2⟩, rfl, hro, hrb, hb4⟩; have hB4 : Below wr.heap.size wr w4 := (by first | exact ⟨hb4.os, hb4.tape, hb4.output, hb4.size, hb4.block⟩ | exact (below_new hB00 _).trans (hb4.mono (below_new hB00 _).size)); (try (have hk4 : Blk w4 wr.heap.size 41 #[.int .i64 0, .slice none 0 0, .int .i64 0, .slice none 0 0] := blk_run4 (b := wr.drew) hb4; have hlt4 := hk4.lt; have z0 := hk4.cell 0; have z1 := hk4.cell 1; have z2 := hk4.cell 2; have z3 := hk4.cell 3; have y0 := hk4.frozen 0; have y1 := hk4.frozen 1; have y2 := hk4.frozen 2; have y3 := hk4.frozen 3))))
          all_goals
            go_wp2_with fail
            go_meet
            first
              | exact ⟨_, r1, C1, k1, l1, r2, C2, k2, l2, rfl, rfl, hk4.set4 _ _ _ _, fa_st (f := ⟨r1, C1, k1, l1, r2, C2, k2, l2⟩) hk4 hro (by simp) hU.out (by first | exact hB00.size | exact (below_new hB00 _).size) hrb, below_st4 hB4 (Nat.le_refl _) _ _ _ _⟩
              | exact ⟨_, r1, C1, k1, l1, r2, C2, k2, l2, rfl, rfl, Blk.new _ _ _, fa_new (f := ⟨r1, C1, k1, l1, r2, C2, k2, l2⟩) hro hU.out (by first | exact hB00.size | exact (below_new hB00 _).size) hrb _, below_new hB4 _⟩
        obtain ⟨G8, r1, C1, k1, l1, r2, C2, k2, l2, rfl, rfl, kq, hq8, hb5⟩ := hcut
        clear E0 hB00 HSB
        have hI5 := hI.out.below hb5
        have hxz : (fun (_ : Nat) x => oDiv x y) i (x.getD i 0) = some (qx / y) := by rw [HQX.out]; exact if_pos hok
        obtain ⟨V, hV, hIV⟩ := hI5.put hgo (by rw [hlen.out]; omega) hq8 hxz
        simp only at hV
        have k9 := (hI5.bx _ (.tail _ (.tail _ (.tail _ (.head _))))).1
        simp only at k9
        have r9 := k9.cell 0
        simp at r9
        have q0 := kq.cell 0
        have q1 := kq.cell 1
        have q2 := kq.cell 2
        have q3 := kq.cell 3
        simp at q0 q1 q2 q3
        have hfl5 := hI5.fl
        obtain ⟨cur5, hk5, hc5⟩ := hI5.line
        obtain ⟨b0, b1, b2, b3⟩ := hc5 i (by rw [hfl5]; exact hgo)
        rw [← hk5.cell] at b0 b1 b2 b3
        have z0 := hk5.frozen (i * 4)
        have z1 := hk5.frozen (i * 4 + 1)
        have z2 := hk5.frozen (i * 4 + 2)
        have z3 := hk5.frozen (i * 4 + 3)
        have hgl5 := hk5.lt
        have HIV := Lib.hid hIV; clear hIV
        clear hI5 hI hq8 kq hxz k9 hk5 hc5 hfl5
        go_wp2_with fail
        rw [← hV]
        go_roundw
        case rel => exact ⟨i + 1, _, _, by omega, rfl, HIV⟩
        case measure => simp [intOf]; omega
      · have HSB := Lib.hid (fun (W' : World) (hb : Below wr.heap.size wr W') => rfdiv_n (hfx.below hb) (hby.below hb) hy0 hok)
        have hfl := Lib.hid (hI.out.hp.fail (by rw [hlen.out]; omega) (by rw [HQX.out]; exact if_neg hok))
        clear hfx hby hsr k3 k8 x0 x1 x2 x3
        go_cut [11, 12] from 30 to 39 (fun p e wx => e = .int .i64 6 ∧ Below wr.heap.size wr wx)
        case first =>
          go_region_held3 (fun W' => W'.cell? ⟨gx, i * 4, none⟩ = some (.int .i64 s5) ∧ W'.cell? ⟨gx, i * 4 + 1, none⟩ = some (.slice A5 n5 d5) ∧ W'.cell? ⟨gx, i * 4 + 2, none⟩ = some (.int .i64 s6) ∧ W'.cell? ⟨gx, i * 4 + 3, none⟩ = some (.slice A6 n6 d6) ∧ W'.cell? ⟨G3, 0, none⟩ = some (.slice (some ⟨gx, 0, none⟩) n0 cp) ∧ W'.cell? ⟨G3 + 1 + 1, 0, none⟩ = some (.int .i64 s3) ∧ W'.cell? ⟨G3 + 1 + 1, 1, none⟩ = some (.slice A3 n3 d3) ∧ W'.cell? ⟨G3 + 1 + 1, 2, none⟩ = some (.int .i64 s4) ∧ W'.cell? ⟨G3 + 1 + 1, 3, none⟩ = some (.slice A4 n4 d4) ∧ Below wr.heap.size wr W')
            (first | exact E0.out _ (below_st4 hB4 (Nat.le_refl _) _ _ _ _) | exact E0.out _ (below_new hB4 _) | exact E0.out _ (below_new hB00 _) | exact E0.out _ (by assumption) | exact E0.out _ ⟨rfl, rfl, rfl, Nat.le_refl _, fun _ _ => rfl⟩)
            (first
              | (go_at_call 68; (first | refine (HSB.out _ hB00).mono ?_ | refine (HSB.out _ (below_new hB00 _)).mono ?_); rintro e w4 ⟨rfl, hb4⟩; have hB4 : Below wr.heap.size wr w4 := (by first | exact ⟨hb4.os, hb4.tape, hb4.output, hb4.size, hb4.block⟩ | exact (below_new hB00 _).trans (hb4.mono (below_new hB00 _).size)); (try (have hk4 : Blk w4 wr.heap.size 41 #[.int .i64 0, .slice none 0 0, .int .i64 0, .slice none 0 0] := blk_run4 (b := wr.drew) hb4; have hlt4 := hk4.lt; have z0 := hk4.cell 0; have z1 := hk4.cell 1; have z2 := hk4.cell 2; have z3 := hk4.cell 3; have y0 := hk4.frozen 0; have y1 := hk4.frozen 1; have y2 := hk4.frozen 2; have y3 := hk4.frozen 3))))
          all_goals
            go_wp2_with fail
            go_meet
            first
              | exact ⟨rfl, below_st4 hB4 (Nat.le_refl _) _ _ _ _⟩
              | exact ⟨rfl, below_new hB4 _⟩
        obtain ⟨rfl, hb5⟩ := hcut
        clear E0 hB00 HSB
        have hI5 := hI.out.below hb5
        clear hI
        have k9 := (hI5.bx _ (.tail _ (.tail _ (.tail _ (.head _))))).1
        have k6 := (hI5.bx _ (.tail _ (.head _))).1
        have l6 := (hI5.bx _ (.tail _ (.head _))).2.2.1
        simp only at k9 k6 l6
        have hbl := hI5.bl
        clear hI5 hb5
        have u0 := k9.cell 0
        have u1 := k9.cell 1
        have u2 := k9.cell 2
        have u3 := k9.cell 3
        have u4 := k9.cell 4
        have v0 := k6.cell 0
        have v1 := k6.cell 1
        have v2 := k6.cell 2
        have v3 := k6.cell 3
        have v4 := k6.cell 4
        simp at u0 u1 u2 u3 u4 v0 v1 v2 v3 v4
        have y0 := k6.frozen 0
        have y1 := k6.frozen 1
        have y2 := k6.frozen 2
        have y3 := k6.frozen 3
        have y4 := k6.frozen 4
        have hl6 := k6.lt
        have hfin := Lib.hid (below_st5 hbl l6 (.slice (some ⟨g4, 0, none⟩) n0 cap4) (.int .i64 0) (.slice none 0 0) (.int .i64 0) (.slice none 0 0))
        clear k9 k6 hbl
        go_wp2_with fail
        refine bodyPost_ret (v := .tuple #[.agg #[.slice (some ⟨g4, 0, none⟩) n0 cap4, .int .i64 0, .slice none 0 0, .int .i64 0, .slice none 0 0], .bool false]) (by simp [results, Tryz.results41, go_sem, v0, v1, v2, v3, v4]) rfl ?_
        exact ⟨hfin.out, .inr ⟨hfl.out, ⟨some ⟨g4, 0, none⟩, n0, cap4, fnil⟩, rfl⟩⟩
    · have : i = n0 := by omega
      subst this
      have hfv := hsr.v
      simp only at hfv
      obtain ⟨z, hz⟩ : ∃ z, x.getD i 0 = z := ⟨_, rfl⟩
      rw [hz] at hfv
      have HZ := Lib.hid hz; clear hz
      have r1 := k3.cell 1
      have r2 := k3.cell 2
      have r3 := k3.cell 3
      have r4 := k3.cell 4
      have a0 := k8.cell 0
      have a1 := k8.cell 1
      have a2 := k8.cell 2
      have a3 := k8.cell 3
      simp at r1 r2 r3 r4 a0 a1 a2 a3
      have hl3 := k3.lt
      have hl8 := k8.lt
      clear hsr
      go_wp2_with fail
      clear r1 r2 r3 r4 a0 a1 a2 a3
      by_cases hok : okDiv z y
      · (with_reducible refine (rfdiv_y hfv hby hy0 hok).mono ?_)
        rintro e w6 ⟨⟨t1, B1, m1, e1, t2, B2, m2, e2⟩, rfl, ho6, rb6, hb6⟩
        have hI6 := hI.out.below hb6
        have k9 := (hI6.bx _ (.tail _ (.tail _ (.tail _ (.head _))))).1
        have n9 := (hI6.bx _ (.tail _ (.tail _ (.tail _ (.head _))))).2
        have k6 := (hI6.bx _ (.tail _ (.head _))).1
        have n6 := (hI6.bx _ (.tail _ (.head _))).2
        simp only at k9 n9 k6 n6
        have u0 := k9.cell 0
        have u1 := k9.cell 1
        have u2 := k9.cell 2
        have u3 := k9.cell 3
        have u4 := k9.cell 4
        have v0 := k6.cell 0
        have v1 := k6.cell 1
        have v2 := k6.cell 2
        have v3 := k6.cell 3
        have v4 := k6.cell 4
        simp at u0 u1 u2 u3 u4 v0 v1 v2 v3 v4
        have x1 := k9.frozen 1
        have x2 := k9.frozen 2
        have x3 := k9.frozen 3
        have x4 := k9.frozen 4
        have y0 := k6.frozen 0
        have y1 := k6.frozen 1
        have y2 := k6.frozen 2
        have y3 := k6.frozen 3
        have y4 := k6.frozen 4
        have hl6 := k6.lt
        have hl9 := k9.lt
        have h69 : G3 + 1 ≠ G9 := fun e => by
          rw [e] at k6
          have h := k6.symm.trans k9
          simp at h
        have hfr : ∀ o, Fr (fun b => w.heap.size ≤ b ∧ b < G9 + 1 ∧ b ≠ g4) w6 ((((((((((w6.setCell ⟨G9, 1, none⟩ (.int .i64 t1)).setCell ⟨G9, 2, none⟩ (.slice B1 m1 e1)).setCell ⟨G9, 3, none⟩ (.int .i64 t2)).setCell ⟨G9, 4, none⟩ (.slice B2 m2 e2)).setCell ⟨G3 + 1, 0, none⟩ (.slice (some ⟨g4, 0, none⟩) i cap4)).setCell ⟨G3 + 1, 1, none⟩ (.int .i64 t1)).setCell ⟨G3 + 1, 2, none⟩ (.slice B1 m1 e1)).setCell ⟨G3 + 1, 3, none⟩ (.int .i64 t2)).setCell ⟨G3 + 1, 4, none⟩ (.slice B2 m2 e2)).alloc o) := fun o =>
          (((fr_st4 G9 w6 _ _ _ _).more (fun b hb => by subst hb; exact ⟨n9.2.1, n9.2.2, n9.1⟩)).tr ((fr_st5 (G3 + 1) _ _ _ _ _ _).more (fun b hb => by subst hb; exact ⟨n6.2.1, n6.2.2, n6.1⟩))).tr (Fr.of_below ((Below.refl _ _).alloc (Nat.le_refl _) _))
        have hd := Lib.hid (hI.out.done hlen.out hb6 (hI.out.own HT.out ho6 (Nat.le_refl _) rb6) (show (fun (_ : Nat) x => oDiv x y) i (x.getD i 0) = some (z / y) by rw [HZ.out]; exact if_pos hok) HT.out (cap := cap4) (hfr (.cells #[.int .i64 t1, .slice B1 m1 e1, .int .i64 t2, .slice B2 m2 e2] 41)))
        clear hI6 k9 k6 n9 n6 hI hb6 ho6 rb6 hfv hby k3 k8 hfr
        go_wp2_with fail
        refine bodyPost_ret (v := .tuple #[.agg #[.slice (some ⟨g4, 0, none⟩) i cap4, .int .i64 t1, .slice B1 m1 e1, .int .i64 t2, .slice B2 m2 e2], .bool true]) (by simp [results, Tryz.results41, go_sem, v0, v1, v2, v3, v4, hl6]) rfl ?_
        exact ⟨hd.out.1, .inl ⟨⟨some ⟨g4, 0, none⟩, i, cap4, ⟨t1, B1, m1, e1, t2, B2, m2, e2⟩⟩, _, hd.out.2.1, rfl, hd.out.2.2⟩⟩
      · (with_reducible refine (rfdiv_n hfv hby hy0 hok).mono ?_)
        rintro e w6 ⟨rfl, hb6⟩
        have hI6 := hI.out.below hb6
        have k9 := (hI6.bx _ (.tail _ (.tail _ (.tail _ (.head _))))).1
        have n9 := (hI6.bx _ (.tail _ (.tail _ (.tail _ (.head _))))).2
        have k6 := (hI6.bx _ (.tail _ (.head _))).1
        have n6 := (hI6.bx _ (.tail _ (.head _))).2
        simp only at k9 n9 k6 n6
        have u0 := k9.cell 0
        have u1 := k9.cell 1
        have u2 := k9.cell 2
        have u3 := k9.cell 3
        have u4 := k9.cell 4
        have v0 := k6.cell 0
        have v1 := k6.cell 1
        have v2 := k6.cell 2
        have v3 := k6.cell 3
        have v4 := k6.cell 4
        simp at u0 u1 u2 u3 u4 v0 v1 v2 v3 v4
        have x1 := k9.frozen 1
        have x2 := k9.frozen 2
        have x3 := k9.frozen 3
        have x4 := k9.frozen 4
        have y0 := k6.frozen 0
        have y1 := k6.frozen 1
        have y2 := k6.frozen 2
        have y3 := k6.frozen 3
        have y4 := k6.frozen 4
        have hl6 := k6.lt
        have hl9 := k9.lt
        have h69 : G3 + 1 ≠ G9 := fun e => by
          rw [e] at k6
          have h := k6.symm.trans k9
          simp at h
        have hfr : ∀ o, Below w.heap.size w ((((((((((w6.setCell ⟨G9, 1, none⟩ (.int .i64 0)).setCell ⟨G9, 2, none⟩ (.slice none 0 0)).setCell ⟨G9, 3, none⟩ (.int .i64 0)).setCell ⟨G9, 4, none⟩ (.slice none 0 0)).setCell ⟨G3 + 1, 0, none⟩ (.slice (some ⟨g4, 0, none⟩) i cap4)).setCell ⟨G3 + 1, 1, none⟩ (.int .i64 0)).setCell ⟨G3 + 1, 2, none⟩ (.slice none 0 0)).setCell ⟨G3 + 1, 3, none⟩ (.int .i64 0)).setCell ⟨G3 + 1, 4, none⟩ (.slice none 0 0)).alloc o) := fun o =>
          hI6.bl.trans (((((fr_st4 G9 w6 _ _ _ _).more (T := fun b => w.heap.size ≤ b) (fun b hb => by subst hb; exact n9.2.1)).tr ((fr_st5 (G3 + 1) _ _ _ _ _ _).more (fun b hb => by subst hb; exact n6.2.1))).tr (Fr.of_below ((Below.refl _ _).alloc (Nat.le_refl _) _))).below (fun b hb => hb) hI6.bl.size)
        have hd := Lib.hid (hfr (.cells #[.int .i64 0, .slice none 0 0, .int .i64 0, .slice none 0 0] 41))
        have hfl := Lib.hid (hI.out.hp.fail (by rw [hlen.out]; omega) (show (fun (_ : Nat) x => oDiv x y) i (x.getD i 0) = none by rw [HZ.out]; exact if_neg hok))
        clear hI6 k9 k6 n9 n6 hI hb6 hfv hby k3 k8 hfr
        go_wp2_with fail
        refine bodyPost_ret (v := .tuple #[.agg #[.slice (some ⟨g4, 0, none⟩) i cap4, .int .i64 0, .slice none 0 0, .int .i64 0, .slice none 0 0], .bool false]) (by simp [results, Tryz.results41, go_sem, v0, v1, v2, v3, v4, hl6]) rfl ?_
        exact ⟨hd.out, .inr ⟨hfl.out, ⟨some ⟨g4, 0, none⟩, i, cap4, fnil⟩, rfl⟩⟩

end Go.Proofs.YtgpmmpajnfbecaaGreat
