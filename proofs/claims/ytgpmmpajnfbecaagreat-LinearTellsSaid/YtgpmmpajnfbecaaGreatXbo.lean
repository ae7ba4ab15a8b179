/- The reference's Zero and less. make of lines; right fractions as they came in, as rational numbers. Walk of linesOf. -/
import Derived.Test.YtgpmmpajnfbecaaGreatXbl
import Derived.Test.YtgpmmpajnfbecaaGreatXbn
import Derived.Laws.MakeOwn
import Derived.BigQuiet
import Derived.Deep.AppendLies

namespace Go.Proofs.YtgpmmpajnfbecaaGreat
open Go.RowKit

theorem lboxes4 (w : World) (a b c d : Array Value) (t : TypeId) : ∃ W, W = (((w.alloc (.cells a t)).alloc (.cells b t)).alloc (.cells c t)).alloc (.cells d t) ∧ Below w.heap.size w W ∧
    Blk W w.heap.size t a ∧ Blk W (w.heap.size + 1) t b ∧ Blk W (w.heap.size + 1 + 1) t c ∧ Blk W (w.heap.size + 1 + 1 + 1) t d := by
  have h1 : Below w.heap.size w (w.alloc (.cells a t)) := (Below.refl _ _).alloc (Nat.le_refl _) _
  have h2 := h1.alloc h1.size (.cells b t)
  have h3 := h2.alloc h2.size (.cells c t)
  have h4 := h3.alloc h3.size (.cells d t)
  have k1 := Blk.new w t a
  have k2 := Blk.new (w.alloc (.cells a t)) t b
  have k3 := Blk.new ((w.alloc (.cells a t)).alloc (.cells b t)) t c
  have k4 := Blk.new (((w.alloc (.cells a t)).alloc (.cells b t)).alloc (.cells c t)) t d
  simp only [World.size_alloc] at k2 k3 k4
  exact ⟨_, rfl, h4, ((k1.alloc _).alloc _).alloc _, (k2.alloc _).alloc _, k3.alloc _, k4⟩

set_option maxRecDepth 100000 in
set_option maxHeartbeats 2000000 in
theorem rzero_any {S : Nat → Prop} {w : World} {f : Fc} {x : Rat} (h : FA S w f x) (b : Bool) (hb : decide (x = 0) = b) :
    Calls Tryz.prog 40 #[f.v] w fun e w' => e = .returned (.bool b) ∧ Below w.heap.size w w' := by
  have hz := h.zero
  rw [hb] at hz
  clear h hb
  obtain ⟨s1, A1, n1, c1, s2, A2, n2, c2⟩ := f
  simp only at hz
  go_enter Tryz.func40, Tryz.ntmps40
  go_wp2_with fail
  cases b with
  | true =>
    go_wp2_with fail
    go_ret
    exact ⟨rfl, (Below.refl _ _).alloc (Nat.le_refl _) _⟩
  | false =>
    go_wp2_with fail
    go_ret
    exact ⟨rfl, (Below.refl _ _).alloc (Nat.le_refl _) _⟩

set_option maxRecDepth 100000 in
set_option maxHeartbeats 8000000 in
theorem rless_y {S T U : Nat → Prop} {w : World} {f g h : Fc} {x y z : Rat} (hx : FA S w f x) (hy : FA T w g y) (hz : FA U w h z) (hm : okMul y z) (hs : okSub x (y * z)) :
    Calls Tryz.prog 69 #[f.v, g.v, h.v] w (OpY (x - y * z) w) := by
  obtain ⟨s1, A1, n1, c1, s2, A2, n2, c2⟩ := f
  obtain ⟨s3, A3, n3, c3, s4, A4, n4, c4⟩ := g
  obtain ⟨s5, A5, n5, c5, s6, A6, n6, c6⟩ := h
  have HM := Lib.hid hm; clear hm
  have HS := Lib.hid hs; clear hs
  go_enter Tryz.func69, Tryz.ntmps69
  go_wp2_with fail
  obtain ⟨W0, hW, hbx, k1, k2, k3, k4⟩ := lboxes4 w #[.int .i64 s1, .slice A1 n1 c1, .int .i64 s2, .slice A2 n2 c2] #[.int .i64 s3, .slice A3 n3 c3, .int .i64 s4, .slice A4 n4 c4] #[.int .i64 s5, .slice A5 n5 c5, .int .i64 s6, .slice A6 n6 c6] #[.int .i64 0, .slice none 0 0, .int .i64 0, .slice none 0 0] 41
  rw [← hW]
  clear hW
  have hx0 := hx.below hbx
  have hy0 := hy.below hbx
  have hz0 := hz.below hbx
  clear hx hy hz
  obtain ⟨G, hG⟩ : ∃ G, w.heap.size = G := ⟨_, rfl⟩
  have hT := hbx
  rw [hG] at k1 k2 k3 k4 ⊢
  have a0 := k2.cell 0
  have a1 := k2.cell 1
  have a2 := k2.cell 2
  have a3 := k2.cell 3
  have b0 := k3.cell 0
  have b1 := k3.cell 1
  have b2 := k3.cell 2
  have b3 := k3.cell 3
  simp at a0 a1 a2 a3 b0 b1 b2 b3
  go_wp2_with fail
  clear a0 a1 a2 a3 b0 b1 b2 b3
  (with_reducible refine (rfmul_y hy0 hz0 HM.out).mono ?_)
  rintro e u1 ⟨⟨t1, B1, m1, e1, t2, B2, m2, e2⟩, rfl, ho, rb, hb1⟩
  have hp1 : FA (fun _ => False) u1 ⟨t1, B1, m1, e1, t2, B2, m2, e2⟩ (y * z) := FA.own ho (fun _ h => h.elim) rb
  have hx1 := hx0.below hb1
  have j1 := k1.below hb1 k1.lt
  have j4 := k4.below hb1 k4.lt
  have hT1 := hT.trans (hb1.mono hT.size)
  clear hx0 hy0 hz0 k1 k2 k3 k4 ho rb
  have hbA : Below u1.heap.size u1 (u1.alloc (.cells #[.int .i64 t1, .slice B1 m1 e1, .int .i64 t2, .slice B2 m2 e2] 41)) := (Below.refl _ _).alloc (Nat.le_refl _) _
  have hp2 := hp1.below hbA
  have hx2 := hx1.below hbA
  have j12 := j1.below hbA j1.lt
  have j42 := j4.below hbA j4.lt
  have hT2 := hT1.trans (hbA.mono hT1.size)
  have hGl := j1.lt
  have a0 := j1.cell 0
  have a1 := j1.cell 1
  have a2 := j1.cell 2
  have a3 := j1.cell 3
  simp at a0 a1 a2 a3
  go_wp2_with fail
  clear a0 a1 a2 a3
  (with_reducible refine (rfsub_y hx2 hp2 HS.out).mono ?_)
  rintro e u2 ⟨⟨r1, C1, l1, i1, r2, C2, l2, i2⟩, rfl, ho, rb, hb2⟩
  have q4 := j42.below hb2 j42.lt
  have hT3 := hT2.trans (hb2.mono hT2.size)
  have hge : w.heap.size ≤ G + 1 + 1 + 1 := by omega
  have hG4 := q4.lt
  have hlt4 : G + 1 + 1 + 1 < (u1.alloc (.cells #[.int .i64 t1, .slice B1 m1 e1, .int .i64 t2, .slice B2 m2 e2] 41)).heap.size := j42.lt
  obtain ⟨V, hV, hbV, hsV, kV, _, hFO⟩ := putf (s := r1) (A := C1) (n := l1) (c := i1) (s' := r2) (A' := C2) (n' := l2) (c' := i2) q4 hT3 hge
  have hov := hFO _ _ _ _ ho hlt4
  have hbW : Below V.heap.size V (V.alloc (.cells #[.int .i64 r1, .slice C1 l1 i1, .int .i64 r2, .slice C2 l2 i2] 41)) := (Below.refl _ _).alloc (Nat.le_refl _) _
  have HO := Lib.hid ((hov.below hbW).mono hT2.size)
  have HB := Lib.hid (hbV.trans (hbW.mono hbV.size))
  have HRB := Lib.hid rb
  have kW := kV.below hbW kV.lt
  have r0' := q4.cell 0
  have r1' := q4.cell 1
  have r2' := q4.cell 2
  have r3' := q4.cell 3
  have f0 := q4.frozen 0
  have f1 := q4.frozen 1
  have f2 := q4.frozen 2
  have f3 := q4.frozen 3
  simp at r0' r1' r2' r3'
  have x0 := kW.cell 0
  have x1 := kW.cell 1
  have x2 := kW.cell 2
  have x3 := kW.cell 3
  simp at x0 x1 x2 x3
  clear hx1 hx2 hp1 hp2 j1 j4 j12 j42 ho rb q4 kV kW hov hFO hbW hbV
  have X0 := Lib.hid x0
  have X1 := Lib.hid x1
  have X2 := Lib.hid x2
  have X3 := Lib.hid x3
  clear x0 x1 x2 x3
  go_wp2_with fail
  rw [← hV]
  refine bodyPost_ret (v := .tuple #[.agg #[.int .i64 r1, .slice C1 l1 i1, .int .i64 r2, .slice C2 l2 i2], .int .i64 0]) (by simp [results, Tryz.results69, go_sem, X0.out, X1.out, X2.out, X3.out]) rfl ?_
  exact ⟨⟨r1, C1, l1, i1, r2, C2, l2, i2⟩, rfl, HO.out, HRB.out, HB.out⟩

set_option maxRecDepth 100000 in
set_option maxHeartbeats 8000000 in
theorem rless_sub {S T U : Nat → Prop} {w : World} {f g h : Fc} {x y z : Rat} (hx : FA S w f x) (hy : FA T w g y) (hz : FA U w h z) (hm : okMul y z) (hs : ¬ okSub x (y * z)) :
    Calls Tryz.prog 69 #[f.v, g.v, h.v] w (OpN w) := by
  obtain ⟨s1, A1, n1, c1, s2, A2, n2, c2⟩ := f
  obtain ⟨s3, A3, n3, c3, s4, A4, n4, c4⟩ := g
  obtain ⟨s5, A5, n5, c5, s6, A6, n6, c6⟩ := h
  have HM := Lib.hid hm; clear hm
  have HS := Lib.hid hs; clear hs
  go_enter Tryz.func69, Tryz.ntmps69
  go_wp2_with fail
  obtain ⟨W0, hW, hbx, k1, k2, k3, k4⟩ := lboxes4 w #[.int .i64 s1, .slice A1 n1 c1, .int .i64 s2, .slice A2 n2 c2] #[.int .i64 s3, .slice A3 n3 c3, .int .i64 s4, .slice A4 n4 c4] #[.int .i64 s5, .slice A5 n5 c5, .int .i64 s6, .slice A6 n6 c6] #[.int .i64 0, .slice none 0 0, .int .i64 0, .slice none 0 0] 41
  rw [← hW]
  clear hW
  have hx0 := hx.below hbx
  have hy0 := hy.below hbx
  have hz0 := hz.below hbx
  clear hx hy hz
  obtain ⟨G, hG⟩ : ∃ G, w.heap.size = G := ⟨_, rfl⟩
  have hT := hbx
  rw [hG] at k1 k2 k3 k4 ⊢
  have a0 := k2.cell 0
  have a1 := k2.cell 1
  have a2 := k2.cell 2
  have a3 := k2.cell 3
  have b0 := k3.cell 0
  have b1 := k3.cell 1
  have b2 := k3.cell 2
  have b3 := k3.cell 3
  simp at a0 a1 a2 a3 b0 b1 b2 b3
  go_wp2_with fail
  clear a0 a1 a2 a3 b0 b1 b2 b3
  (with_reducible refine (rfmul_y hy0 hz0 HM.out).mono ?_)
  rintro e u1 ⟨⟨t1, B1, m1, e1, t2, B2, m2, e2⟩, rfl, ho, rb, hb1⟩
  have hp1 : FA (fun _ => False) u1 ⟨t1, B1, m1, e1, t2, B2, m2, e2⟩ (y * z) := FA.own ho (fun _ h => h.elim) rb
  have hx1 := hx0.below hb1
  have j1 := k1.below hb1 k1.lt
  have j4 := k4.below hb1 k4.lt
  have hT1 := hT.trans (hb1.mono hT.size)
  clear hx0 hy0 hz0 k1 k2 k3 k4 ho rb
  have hbA : Below u1.heap.size u1 (u1.alloc (.cells #[.int .i64 t1, .slice B1 m1 e1, .int .i64 t2, .slice B2 m2 e2] 41)) := (Below.refl _ _).alloc (Nat.le_refl _) _
  have hp2 := hp1.below hbA
  have hx2 := hx1.below hbA
  have j12 := j1.below hbA j1.lt
  have j42 := j4.below hbA j4.lt
  have hT2 := hT1.trans (hbA.mono hT1.size)
  have hGl := j1.lt
  have a0 := j1.cell 0
  have a1 := j1.cell 1
  have a2 := j1.cell 2
  have a3 := j1.cell 3
  simp at a0 a1 a2 a3
  go_wp2_with fail
  clear a0 a1 a2 a3
  (with_reducible refine (rfsub_n hx2 hp2 HS.out).mono ?_)
  rintro e u2 ⟨rfl, hb2⟩
  have q4 := j42.below hb2 j42.lt
  have hT3 := hT2.trans (hb2.mono hT2.size)
  have hge : w.heap.size ≤ G + 1 + 1 + 1 := by omega
  have hG4 := q4.lt
  obtain ⟨V, hV, hbV, hsV, kV, _, hFO⟩ := putf (s := 0) (A := none) (n := 0) (c := 0) (s' := 0) (A' := none) (n' := 0) (c' := 0) q4 hT3 hge
  have hbW : Below V.heap.size V (V.alloc (.cells #[.int .i64 0, .slice none 0 0, .int .i64 0, .slice none 0 0] 41)) := (Below.refl _ _).alloc (Nat.le_refl _) _
  have HB := Lib.hid (hbV.trans (hbW.mono hbV.size))
  have kW := kV.below hbW kV.lt
  have r0' := q4.cell 0
  have r1' := q4.cell 1
  have r2' := q4.cell 2
  have r3' := q4.cell 3
  have f0 := q4.frozen 0
  have f1 := q4.frozen 1
  have f2 := q4.frozen 2
  have f3 := q4.frozen 3
  simp at r0' r1' r2' r3'
  have x0 := kW.cell 0
  have x1 := kW.cell 1
  have x2 := kW.cell 2
  have x3 := kW.cell 3
  simp at x0 x1 x2 x3
  clear hx1 hx2 hp1 hp2 j1 j4 j12 j42 q4 kV kW hFO hbW hbV
  have X0 := Lib.hid x0
  have X1 := Lib.hid x1
  have X2 := Lib.hid x2
  have X3 := Lib.hid x3
  clear x0 x1 x2 x3
  go_wp2_with fail
  rw [← hV]
  refine bodyPost_ret (v := .tuple #[.agg #[.int .i64 0, .slice none 0 0, .int .i64 0, .slice none 0 0], .int .i64 6]) (by simp [results, Tryz.results69, go_sem, X0.out, X1.out, X2.out, X3.out]) rfl ?_
  exact ⟨rfl, HB.out⟩

set_option maxRecDepth 100000 in
set_option maxHeartbeats 8000000 in
theorem rless_mul {S T U : Nat → Prop} {w : World} {f g h : Fc} {x y z : Rat} (hx : FA S w f x) (hy : FA T w g y) (hz : FA U w h z) (hm : ¬ okMul y z) :
    Calls Tryz.prog 69 #[f.v, g.v, h.v] w (OpN w) := by
  obtain ⟨s1, A1, n1, c1, s2, A2, n2, c2⟩ := f
  obtain ⟨s3, A3, n3, c3, s4, A4, n4, c4⟩ := g
  obtain ⟨s5, A5, n5, c5, s6, A6, n6, c6⟩ := h
  have HM := Lib.hid hm; clear hm
  go_enter Tryz.func69, Tryz.ntmps69
  go_wp2_with fail
  obtain ⟨W0, hW, hbx, k1, k2, k3, k4⟩ := lboxes4 w #[.int .i64 s1, .slice A1 n1 c1, .int .i64 s2, .slice A2 n2 c2] #[.int .i64 s3, .slice A3 n3 c3, .int .i64 s4, .slice A4 n4 c4] #[.int .i64 s5, .slice A5 n5 c5, .int .i64 s6, .slice A6 n6 c6] #[.int .i64 0, .slice none 0 0, .int .i64 0, .slice none 0 0] 41
  rw [← hW]
  clear hW
  have hx0 := hx.below hbx
  have hy0 := hy.below hbx
  have hz0 := hz.below hbx
  clear hx hy hz
  obtain ⟨G, hG⟩ : ∃ G, w.heap.size = G := ⟨_, rfl⟩
  have hT := hbx
  rw [hG] at k1 k2 k3 k4 ⊢
  have a0 := k2.cell 0
  have a1 := k2.cell 1
  have a2 := k2.cell 2
  have a3 := k2.cell 3
  have b0 := k3.cell 0
  have b1 := k3.cell 1
  have b2 := k3.cell 2
  have b3 := k3.cell 3
  simp at a0 a1 a2 a3 b0 b1 b2 b3
  go_wp2_with fail
  clear a0 a1 a2 a3 b0 b1 b2 b3
  (with_reducible refine (rfmul_n hy0 hz0 HM.out).mono ?_)
  rintro e u1 ⟨rfl, hb1⟩
  have q4 := k4.below hb1 k4.lt
  have hT1 := hT.trans (hb1.mono hT.size)
  have hge : w.heap.size ≤ G + 1 + 1 + 1 := by omega
  have hG4 := q4.lt
  obtain ⟨V, hV, hbV, hsV, kV, _, hFO⟩ := putf (s := 0) (A := none) (n := 0) (c := 0) (s' := 0) (A' := none) (n' := 0) (c' := 0) q4 hT1 hge
  have hbW : Below V.heap.size V (V.alloc (.cells #[.int .i64 0, .slice none 0 0, .int .i64 0, .slice none 0 0] 41)) := (Below.refl _ _).alloc (Nat.le_refl _) _
  have HB := Lib.hid (hbV.trans (hbW.mono hbV.size))
  have kW := kV.below hbW kV.lt
  have r0' := q4.cell 0
  have r1' := q4.cell 1
  have r2' := q4.cell 2
  have r3' := q4.cell 3
  have f0 := q4.frozen 0
  have f1 := q4.frozen 1
  have f2 := q4.frozen 2
  have f3 := q4.frozen 3
  simp at r0' r1' r2' r3'
  have x0 := kW.cell 0
  have x1 := kW.cell 1
  have x2 := kW.cell 2
  have x3 := kW.cell 3
  simp at x0 x1 x2 x3
  clear hx0 hy0 hz0 k1 k2 k3 k4 q4 kV kW hFO hbW hbV
  have X0 := Lib.hid x0
  have X1 := Lib.hid x1
  have X2 := Lib.hid x2
  have X3 := Lib.hid x3
  clear x0 x1 x2 x3
  go_wp2_with fail
  rw [← hV]
  refine bodyPost_ret (v := .tuple #[.agg #[.int .i64 0, .slice none 0 0, .int .i64 0, .slice none 0 0], .int .i64 6]) (by simp [results, Tryz.results69, go_sem, X0.out, X1.out, X2.out, X3.out]) rfl ?_
  exact ⟨rfl, HB.out⟩

end Go.Proofs.YtgpmmpajnfbecaaGreat

namespace Go.Proofs.YtgpmmpajnfbecaaGreat
open Go.RowKit

theorem Tryz.infoLi : (Tryz.prog.info? 23).map (fun i => (i.zero, i.size, i.bytes)) = some (some (.slice none 0 0), 1, 24) := by kernel_rfl
/-- make([][]api.Frac, n). -/
theorem makeL {w : World} {ops : Array Oper} {rest : List Oper} {o : Oper} {a : Act} {Q : Exit → Act → World → Prop} (hgd : o.guard = none) (l c : Operand)
    (ho : o.op = Op.makeSlice 49 l c) (n : Nat) (L C : Int) (hl : a.eval l = .int .i64 L) (hc : a.eval c = .int .i64 C) (hL : L = n) (hC : C = n) (hm : n ≤ 10000000)
    (h : ∀ w', Blk w' w.heap.size 23 (List.replicate n (Value.slice none 0 0)).toArray → Below w.heap.size w w' → w'.heap.size = w.heap.size + 1 → wpList Tryz.prog ops Q rest (a.put o.dst (.slice (some ⟨w.heap.size, 0, none⟩) n n)) w') : wpList Tryz.prog ops Q (o :: rest) a w := by
  obtain ⟨i0, hi, hz0, hz1, hz2⟩ := info_parts Tryz.infoLi
  subst hL; subst hC
  have hr := run_make (P := Tryz.prog) w 49 23 i0 (.slice none 0 0) Tryz.underlying49 hi hz0 .i64 .i64 (n : Int) (n : Int) (by omega) (by omega) (by rw [hz2]; omega) (by omega)
  simp only [Int.toNat_natCast] at hr
  refine wpList_plain hgd fun K hK' => ?_
  unfold Oper.wp
  simp [execOp, ho, hl, hc, hr, Result.andThen]
  refine hK' _ _ (h _ ?_ ((Below.refl _ w).alloc (Nat.le_refl _) _) (by simp))
  have e : madeCells (Value.slice none 0 0).cells (n * i0.size) = (List.replicate n (Value.slice none 0 0)).toArray := by
    rw [hz1, Nat.mul_one]
    apply Array.ext'
    unfold madeCells
    simp only [Value.cells]
    apply List.ext_getElem
    · simp
    · intro i h1 h2
      simp [Nat.mod_one]
  rw [e]
  exact Blk.new w 23 _

/-- The numbers of a row, its value last. -/
def Rd.q (d : Rd) : List Rat := d.A.map Fd.q ++ [d.v.q]
theorem fd_fa {w : World} {f : Fc} {d : Fd} (h : FdIs w f d) (hr : d.R) : FA (fun b => w.heap.size ≤ b) w f d.q := by
  obtain ⟨p, q, ⟨a1, a2, a3⟩, ⟨b1, b2, b3⟩, hf⟩ := hr
  have hp : d.s * nv d.l = p := by
    rw [a1, a2, nv_D (ab_nonneg p)]
    exact sgn_ab p
  have hq : d.s' * nv d.l' = q := by
    rw [b1, b2, nv_D (ab_nonneg q)]
    exact sgn_ab q
  obtain ⟨r, e1, e2⟩ := hf.rat
  have hx : d.q = r := by
    unfold Fd.q
    rw [hp, hq, e1, e2]
    exact divInt_self r
  have v1 := h.a1.bv (h.e1.trans a1) a2
  have v2 := h.a2.bv (h.e2.trans b1) b2
  rw [hx]
  refine ⟨⟨by rw [← e1]; exact v1, by rw [← e2]; exact v2⟩, ⟨by rw [← e1]; exact a3, by rw [← e2]; exact b3⟩, ?_, ?_⟩
  · intro a ha h0 hs
    obtain ⟨b, off, e, hB, _⟩ := h.a1.hI 0 (by rw [h.a1.hn]; exact h0)
    rw [ha] at e
    injection e with e
    subst e
    exact absurd hs (Nat.not_le.2 hB)
  · intro a ha h0 hs
    obtain ⟨b, off, e, hB, _⟩ := h.a2.hI 0 (by rw [h.a2.hn]; exact h0)
    rw [ha] at e
    injection e with e
    subst e
    exact absurd hs (Nat.not_le.2 hB)

/-- The lines that are done: i of them, in blocks gs; the others are nil. No digits were made since w. -/
structure LinI (w wr : World) (L m : Nat) (rs : List Rd) (gs : List (Nat × Nat)) (i : Nat) : Prop where
  len : gs.length = i
  lo : w.heap.size ≤ L
  blk : Blk wr L 23 (gs.map (lcell (m + 1)) ++ List.replicate (m - i) (Value.slice none 0 0)).toArray
  ln : ∀ k, k < i → ∃ (fs : List Fc) (cur : Array Value), fs.length = m + 1 ∧ Blk wr (gs.getD k (0, 0)).1 41 cur ∧ CellsL cur fs ∧ ∀ j, j < m + 1 → FA (fun b => w.heap.size ≤ b) wr (fs.getD j fnil) ((rs.getD k rnil).q.getD j 0)
  ge : ∀ k, k < i → w.heap.size ≤ (gs.getD k (0, 0)).1
  one : ∀ j k, j < i → k < i → j ≠ k → (gs.getD j (0, 0)).1 ≠ (gs.getD k (0, 0)).1
  far : ∀ k, k < i → (gs.getD k (0, 0)).1 ≠ L
  bl : Below w.heap.size w wr
/-- A further line is laid into the block g, that was not there, and stored. -/
theorem LinI.next {w wr wx : World} {L m : Nat} {rs : List Rd} {gs : List (Nat × Nat)} {i : Nat} (h : LinI w wr L m rs gs i) (hi : i < m) {g cap : Nat} {cur : Array Value} {fs : List Fc} (hg : wr.heap.size ≤ g) (hb : Blk wx g 41 cur) (hc : CellsL cur fs) (hl : fs.length = m + 1)
    (hL : Blk wx L 23 ((gs.map (lcell (m + 1)) ++ List.replicate (m - i) (Value.slice none 0 0)).toArray.setIfInBounds i (.slice (some ⟨g, 0, none⟩) (m + 1) cap))) (hf : Fr (· = L) wr wx)
    (hq : ∀ j, j < m + 1 → FA (fun b => w.heap.size ≤ b) wr (fs.getD j fnil) ((rs.getD i rnil).q.getD j 0)) : LinI w wx L m rs (gs ++ [(g, cap)]) (i + 1) := by
  have hS : Fr (fun b => w.heap.size ≤ b) wr wx := hf.more (fun b hb => by subst hb; exact h.lo)
  have hlen := h.len
  have hold : ∀ k, k < i → (gs ++ [(g, cap)]).getD k (0, 0) = gs.getD k (0, 0) := fun k hk => by
    rw [List.getD_eq_getElem?_getD, List.getElem?_append_left (by omega), List.getD_eq_getElem?_getD]
  have hnew : (gs ++ [(g, cap)]).getD i (0, 0) = (g, cap) := by
    rw [List.getD_eq_getElem?_getD, List.getElem?_append_right (by omega), hlen, Nat.sub_self]; rfl
  have hlt : ∀ k, k < i → (gs.getD k (0, 0)).1 < wr.heap.size := fun k hk => by
    obtain ⟨fs', cur', _, hb', _⟩ := h.ln k hk
    exact hb'.lt
  refine ⟨by simp [hlen], h.lo, ?_, ?_, ?_, ?_, ?_, h.bl.trans (hf.below (fun b hb => by subst hb; exact h.lo) h.bl.size)⟩
  · have e : (gs.map (lcell (m + 1)) ++ List.replicate (m - i) (Value.slice none 0 0)).toArray.setIfInBounds i (.slice (some ⟨g, 0, none⟩) (m + 1) cap) = ((gs ++ [(g, cap)]).map (lcell (m + 1)) ++ List.replicate (m - (i + 1)) (Value.slice none 0 0)).toArray := by
      rw [show m - i = (m - (i + 1)) + 1 by omega, List.replicate_succ, List.setIfInBounds_toArray, List.set_append_right _ _ (by rw [List.length_map, hlen]; exact Nat.le_refl _), List.length_map, hlen, Nat.sub_self, List.set_cons_zero]
      simp
    rw [← e]
    exact hL
  · intro k hk
    by_cases hki : k < i
    · rw [hold k hki]
      obtain ⟨fs', cur', h1, h2, h3, h4⟩ := h.ln k hki
      exact ⟨fs', cur', h1, h2.fr hf (h.far k hki), h3, fun j hj => (h4 j hj).fr hS⟩
    · have : k = i := by omega
      subst this
      rw [hnew]
      exact ⟨fs, cur, hl, hb, hc, fun j hj => (hq j hj).fr hS⟩
  · intro k hk
    by_cases hki : k < i
    · rw [hold k hki]; exact h.ge k hki
    · have : k = i := by omega
      subst this
      rw [hnew]
      exact Nat.le_trans h.bl.size hg
  · intro j k hj hk hjk
    by_cases hji : j < i
    · by_cases hki : k < i
      · rw [hold j hji, hold k hki]; exact h.one j k hji hki hjk
      · have : k = i := by omega
        subst this
        rw [hold j hji, hnew]
        have := hlt j hji
        show _ ≠ g
        omega
    · have : j = i := by omega
      subst this
      have hki : k < j := by omega
      rw [hold k hki, hnew]
      have := hlt k hki
      show g ≠ _
      omega
  · intro k hk
    by_cases hki : k < i
    · rw [hold k hki]; exact h.far k hki
    · have : k = i := by omega
      subst this
      rw [hnew]
      have := h.blk.lt
      show g ≠ L
      omega
theorem LinI.start {w w0 : World} {m : Nat} {rs : List Rd} (hb : Blk w0 w.heap.size 23 (List.replicate m (Value.slice none 0 0)).toArray) (hbl : Below w.heap.size w w0) : LinI w w0 w.heap.size m rs [] 0 :=
  ⟨rfl, Nat.le_refl _, by simpa using hb, fun k hk => by omega, fun k hk => by omega, fun j k hj => by omega, fun k hk => by omega, hbl⟩
/-- All lines are done: they are the call's own. -/
theorem LinI.done {w wr : World} {L m : Nat} {rs : List Rd} {gs : List (Nat × Nat)} (h : LinI w wr L m rs gs m) (hm : rs.length = m) (hl : ∀ k, k < m → (rs.getD k rnil).q.length = m + 1) : Lines (fun b => w.heap.size ≤ b ∧ b < wr.heap.size) wr L (m + 1) gs (rs.map Rd.q) := by
  have hX : ∀ k, k < m → (rs.map Rd.q).getD k [] = (rs.getD k rnil).q := fun k hk => by
    rw [List.getD_eq_getElem?_getD, List.getElem?_map, List.getD_eq_getElem?_getD, List.getElem?_eq_getElem (by omega)]; rfl
  refine ⟨⟨h.lo, h.blk.lt⟩, by rw [List.length_map, h.len, hm], ?_, ?_, ?_, ?_⟩
  · have := h.blk
    rw [Nat.sub_self, List.replicate_zero, List.append_nil] at this
    exact this
  · intro k hk
    rw [h.len] at hk
    obtain ⟨fs, cur, h1, h2, h3, h4⟩ := h.ln k hk
    rw [hX k hk]
    exact ⟨fs, h1, ⟨h.ge k hk, h2.lt⟩, by rw [h1, hl k hk], ⟨cur, h2, h3⟩, fun j hj => (h4 j (by omega)).less (fun b hb => hb.1)⟩
  · intro j k hj hk
    rw [h.len] at hj hk
    exact h.one j k hj hk
  · intro k hk
    rw [h.len] at hk
    exact h.far k hk

end Go.Proofs.YtgpmmpajnfbecaaGreat

namespace Go.Proofs.YtgpmmpajnfbecaaGreat
open Go.RowKit

/-- What one line's statement leaves. -/
def LineP (W1 : World) (L i nn : Nat) (cs : Array Value) (fl : List Fc) (wx : World) : Prop := ∃ (g cap : Nat) (cur : Array Value), W1.heap.size ≤ g ∧ Blk wx g 41 cur ∧ CellsL cur fl ∧ Blk wx L 23 (cs.setIfInBounds i (.slice (some ⟨g, 0, none⟩) nn cap)) ∧ Fr (· = L) W1 wx
theorem LineP.of {W1 w4 : World} {L i nn g cap : Nat} {cs cur : Array Value} {fl : List Fc} (hL : Blk W1 L 23 cs) (hb : Below W1.heap.size W1 w4) (hg : W1.heap.size ≤ g) (hk : Blk w4 g 41 cur) (hc : CellsL cur fl) :
    LineP W1 L i nn cs fl (w4.setCell ⟨L, i, none⟩ (.slice (some ⟨g, 0, none⟩) nn cap)) := by
  have h := hL.lt
  refine ⟨g, cap, cur, hg, hk.far (by show g ≠ L; omega) _, hc, (hL.below hb hL.lt).set_ i _, ?_⟩
  exact (Fr.of_below hb).tr ⟨by simp [World.setCell], by simp [World.setCell], by simp [World.setCell], by simp, fun b _ hn => Below.heap_setCell _ _ _ b hn⟩
theorem LinI.below {w wr wq : World} {L m : Nat} {rs : List Rd} {gs : List (Nat × Nat)} {i : Nat} (h : LinI w wr L m rs gs i) (hb : Below wr.heap.size wr wq) : LinI w wq L m rs gs i :=
  ⟨h.len, h.lo, h.blk.below hb h.blk.lt, fun k hk => by
    obtain ⟨fs, cur, h1, h2, h3, h4⟩ := h.ln k hk
    exact ⟨fs, cur, h1, h2.below hb h2.lt, h3, fun j hj => (h4 j hj).below hb⟩, h.ge, h.one, h.far, h.bl.trans (hb.mono h.bl.size)⟩
theorem lit_fc (w : World) (f : Fc) : FcAt (w.alloc (.cells #[.int .i64 f.s, .slice f.A f.n f.c, .int .i64 f.s', .slice f.A' f.n' f.c'] 41)) (some ⟨w.heap.size, 0, none⟩) [f] := fun k hk => by
  have : k = 0 := by simpa using hk
  subst this
  have kb := Blk.new w 41 #[.int .i64 f.s, .slice f.A f.n f.c, .int .i64 f.s', .slice f.A' f.n' f.c']
  exact ⟨_, 0, rfl, by simp, kb.cell 0, kb.cell 1, kb.cell 2, kb.cell 3⟩

theorem row_fa {w : World} {m : Nat} {fs : List Fc} {f : Fc} {d : Rd} (hl : fs.length = m) (hr : d.R m) (hfi : ∀ k, k < d.A.length → FdIs w (fs.getD k fnil) (d.A.getD k dnil)) (hf : FdIs w f d.v) {j : Nat} (hj : j < m + 1) :
    FA (fun b => w.heap.size ≤ b) w ((fs ++ [f]).getD j fnil) (d.q.getD j 0) := by
  obtain ⟨h1, h2, h3⟩ := hr
  unfold Rd.q
  by_cases hjm : j < m
  · have e1 : (fs ++ [f]).getD j fnil = fs.getD j fnil := by
      rw [List.getD_eq_getElem?_getD, List.getElem?_append_left (by omega), List.getD_eq_getElem?_getD]
    have e2 : (d.A.map Fd.q ++ [d.v.q]).getD j 0 = (d.A.getD j dnil).q := by
      rw [List.getD_eq_getElem?_getD, List.getElem?_append_left (by rw [List.length_map]; omega), List.getElem?_map, List.getD_eq_getElem?_getD, List.getElem?_eq_getElem (by omega)]
      rfl
    rw [e1, e2]
    exact fd_fa (hfi j (by omega)) (h2 j hjm)
  · have : j = m := by omega
    subst this
    have e1 : (fs ++ [f]).getD j fnil = f := by
      rw [List.getD_eq_getElem?_getD, List.getElem?_append_right (by omega), hl, Nat.sub_self]; rfl
    have e2 : (d.A.map Fd.q ++ [d.v.q]).getD j 0 = d.v.q := by
      rw [List.getD_eq_getElem?_getD, List.getElem?_append_right (by rw [List.length_map]; omega), List.length_map, h1, Nat.sub_self]; rfl
    rw [e1, e2]
    exact fd_fa hf h3

set_option maxRecDepth 100000 in
set_option maxHeartbeats 8000000 in
theorem linesOf_any {A : Option Addr} {m cap : Nat} {rs : List Rd} (w : World) (h : RdsAt w A rs) (hm : rs.length = m) (h40 : m ≤ 40) (hr : ∀ k, k < m → (rs.getD k rnil).R m) :
    Calls Tryz.prog 22 #[.slice A m cap] w fun e w' => ∃ (L : Nat) (gs : List (Nat × Nat)), e = .returned (.slice (some ⟨L, 0, none⟩) m m) ∧ gs.length = m ∧ Lines (fun b => w.heap.size ≤ b ∧ b < w'.heap.size) w' L (m + 1) gs (rs.map Rd.q) ∧ Below w.heap.size w w' := by
  have HD := Lib.hid h; clear h
  have HM := Lib.hid hm; clear hm
  have HR := Lib.hid hr; clear hr
  go_enter Tryz.func22, Tryz.ntmps22
  go_wp2_with (at_make; refine makeL rfl (.tmp 7) (.tmp 7) rfl m _ _ rfl rfl rfl rfl (by omega) ?_; intro w0 hb0k hb0 hsz0)
  have HST := Lib.hid (LinI.start (rs := rs) hb0k hb0)
  have hLlt : w.heap.size < w0.heap.size := by omega
  obtain ⟨L, hLe⟩ : ∃ L, w.heap.size = L := ⟨_, rfl⟩
  rw [show LinI w w0 w.heap.size m rs [] 0 = LinI w w0 L m rs [] 0 by rw [hLe]] at HST
  have HLE := Lib.hid hLe
  rw [hLe]
  clear hb0k hb0 hsz0 hLlt hLe
  go_loopw [11] (fun iv wr => ∃ (i : Nat) (gs : List (Nat × Nat)), i ≤ m ∧ iv = .int .i64 i ∧ Hid (LinI w wr L m rs gs i)) (fun iv _ => m - (intOf iv).toNat)
  case atStart => exact ⟨0, [], Nat.zero_le _, rfl, HST⟩
  case round =>
    obtain ⟨i, gs, hi, rfl, hI⟩ := hrel
    clear HST
    by_cases hgo : i < m
    · obtain ⟨bb, off, Aa, ca, f, hA, hBB0, c0, c1, c2, c3, c4, hla, hfa, hf⟩ := HD.out i (by rw [HM.out]; exact hgo)
      subst hA
      have hRi := HR.out i hgo
      obtain ⟨fs, hfl, hfc0, hfi⟩ := hfa.fcs
      have hqw : ∀ j, j < m + 1 → FA (fun b => w.heap.size ≤ b) w ((fs ++ [f]).getD j fnil) ((rs.getD i rnil).q.getD j 0) := fun j hj => row_fa (hfl.trans hRi.1) hRi hfi hf hj
      have hbl := hI.out.bl
      have hc : ∀ k, wr.cell? ⟨bb, k, none⟩ = w.cell? ⟨bb, k, none⟩ := fun k => hbl.cell (p := ⟨bb, k, none⟩) hBB0
      rw [← hc] at c0 c1 c2 c3 c4
      have hBB := Nat.lt_of_lt_of_le hBB0 hbl.size
      have hfc := hfc0.below hbl
      rw [hRi.1] at c0 hfl
      obtain ⟨s1, A1, n1, d1, s2, A2, n2, d2⟩ := f
      simp only at c1 c2 c3 c4
      have hbA : Below wr.heap.size wr (wr.alloc (.cells #[.slice Aa m ca, .int .i64 s1, .slice A1 n1 d1, .int .i64 s2, .slice A2 n2 d2] 43)) := (Below.refl _ _).alloc (Nat.le_refl _) _
      have kA := Blk.new wr 43 #[.slice Aa m ca, .int .i64 s1, .slice A1 n1 d1, .int .i64 s2, .slice A2 n2 d2]
      have hIA := Lib.hid (hI.out.below hbA)
      have hfcA := hfc.below hbA
      have hqs := Lib.hid (fun j (hj : j < m + 1) => ((hqw j hj).below hbl).below hbA)
      clear hqw hc hbl hBB0 hfc0
      go_upto_region 5 with fail
      clear c0 c1 c2 c3 c4 hf hfa hfc hfi
      obtain ⟨GR, hGR⟩ : ∃ G, wr.heap.size = G := ⟨_, rfl⟩
      rw [hGR] at kA ⊢
      generalize wr.alloc (.cells #[.slice Aa m ca, .int .i64 s1, .slice A1 n1 d1, .int .i64 s2, .slice A2 n2 d2] 43) = W1 at *
      have HCL := Lib.hid (fun (W' : World) (hb : Below W1.heap.size W1 W') => fclone_any fs Aa m ca W' hfl (hfcA.below hb) (by omega))
      obtain ⟨cs, hcs⟩ : ∃ cs, (gs.map (lcell (m + 1)) ++ List.replicate (m - i) (Value.slice none 0 0)).toArray = cs := ⟨_, rfl⟩
      have kL := hIA.out.blk
      rw [hcs] at kL
      have hsz : i < cs.size := by rw [← hcs]; simp [hIA.out.len]; omega
      have hlen : (fs ++ [(⟨s1, A1, n1, d1, s2, A2, n2, d2⟩ : Fc)]).length = m + 1 := by simp [hfl]
      have HK := Lib.hid (And.intro kA (And.intro kL hlen))
      have q0 := kA.cell 0
      have q1 := kA.cell 1
      have q2 := kA.cell 2
      have q3 := kA.cell 3
      have q4 := kA.cell 4
      simp at q0 q1 q2 q3 q4
      have e0 : ∀ W' : World, Below W1.heap.size W1 W' → W'.cell? ⟨GR, 0, none⟩ = some (.slice Aa m ca) ∧ W'.cell? ⟨GR, 1, none⟩ = some (.int .i64 s1) ∧ W'.cell? ⟨GR, 2, none⟩ = some (.slice A1 n1 d1) ∧ W'.cell? ⟨GR, 3, none⟩ = some (.int .i64 s2) ∧ W'.cell? ⟨GR, 4, none⟩ = some (.slice A2 n2 d2) := fun W' hW =>
        ⟨(kA.below hW kA.lt).cell 0, (kA.below hW kA.lt).cell 1, (kA.below hW kA.lt).cell 2, (kA.below hW kA.lt).cell 3, (kA.below hW kA.lt).cell 4⟩
      have E0 := Lib.hid e0; clear e0
      have hB00 : Below W1.heap.size W1 W1.drew := (Below.refl _ _).drew
      have hGRl := kA.lt
      have HCS := Lib.hid hcs
      clear hfcA hI hcs kA kL hlen hbA hGR
      go_region_law (first
          | (go_simp; go_at_call 38; (first | refine (HCL.out _ hB00).mono ?_ | refine (HCL.out _ (below_new hB00 _)).mono ?_); rintro e w2 ⟨v2, rfl, ho2, hb2⟩; have hB2 : Below W1.heap.size W1 w2 := (by first | exact ⟨hb2.os, hb2.tape, hb2.output, hb2.size, hb2.block⟩ | exact (below_new hB00 _).trans (hb2.mono (below_new hB00 _).size)); have ho3 : OwnF w2 W1.heap.size v2 fs := (by first | exact ho2 | exact ho2.mono (below_new hB00 _).size); obtain ⟨t0, t1, t2, t3, t4⟩ := E0.out _ hB2; have hgl2 := Nat.lt_of_lt_of_le hGRl hB2.size)
          | (refine step_appF rfl (.tmp 20) (.tmp 23) rfl W1.heap.size _ fs [⟨s1, A1, n1, d1, s2, A2, n2, d2⟩] (some ⟨w2.heap.size, 0, none⟩) 1 1 (by simp [Act.eval]) (ho3.below ((Below.refl _ _).alloc (Nat.le_refl _) _)) (by simp [Act.eval]) rfl (lit_fc w2 ⟨s1, A1, n1, d1, s2, A2, n2, d2⟩) (by rw [hfl]; omega) (below_new hB2 _).size ?_; intro v4 w4 hown4 hg4 hat4; have hB4 : Below W1.heap.size W1 w4 := grown_belF (below_new hB2 _) (ho3.below ((Below.refl _ _).alloc (Nat.le_refl _) _)) hg4 (Nat.le_refl _); obtain ⟨g4, cap4, cur4, hv4, hge4, hb4, hc4, -⟩ := hown4.blk (by simp); rw [HK.out.2.2] at hv4; subst hv4; have kL4 := HK.out.2.1.below hB4 HK.out.2.1.lt; have l4 := kL4.cell i; have f4 := kL4.frozen i; rw [Array.getElem?_eq_getElem hsz] at l4)
          | (refine step_appF rfl (.tmp 20) (.tmp 23) rfl W1.heap.size _ fs [⟨s1, A1, n1, d1, s2, A2, n2, d2⟩] (some ⟨W1.heap.size, 0, none⟩) 1 1 (by simp [Act.eval]) ho3 (by simp [Act.eval]) rfl ((lit_fc W1.drew ⟨s1, A1, n1, d1, s2, A2, n2, d2⟩).below hb2) (by rw [hfl]; omega) hB2.size ?_; intro v4 w4 hown4 hg4 hat4; have hB4 : Below W1.heap.size W1 w4 := grown_belF hB2 ho3 hg4 (Nat.le_refl _); obtain ⟨g4, cap4, cur4, hv4, hge4, hb4, hc4, -⟩ := hown4.blk (by simp); rw [HK.out.2.2] at hv4; subst hv4; have kL4 := HK.out.2.1.below hB4 HK.out.2.1.lt; have l4 := kL4.cell i; have f4 := kL4.frozen i; rw [Array.getElem?_eq_getElem hsz] at l4))
      all_goals
        have hlp : LineP W1 L i (m + 1) cs (fs ++ [⟨s1, A1, n1, d1, s2, A2, n2, d2⟩]) (w4.setCell ⟨L, i, none⟩ (.slice (some ⟨g4, 0, none⟩) (m + 1) cap4)) := LineP.of HK.out.2.1 hB4 hge4 hb4 hc4
        obtain ⟨g, cp, cur, hge, hkg, hcg, hkL, hfL⟩ := hlp
        have hnx := Lib.hid (hIA.out.next hgo hge hkg hcg HK.out.2.2 (by rw [HCS.out]; exact hkL) hfL hqs.out)
        clear hkg hcg hkL hfL hb4 hc4 kL4 l4 f4 hB4 hown4 hg4 hat4 ho2 ho3 hb2 hB2 t0 t1 t2 t3 t4 q0 q1 q2 q3 q4 E0 hqs HCL HK hIA
        go_wp2_with fail
        go_roundw
        case rel => exact ⟨i + 1, _, by omega, rfl, hnx⟩
        case measure => simp [intOf]; omega
    · have : i = m := by omega
      subst this
      have hfin := Lib.hid (hI.out.done HM.out (fun k hk => by
        have h := (HR.out k hk).1
        unfold Rd.q
        rw [List.length_append, List.length_map, h]
        rfl))
      have hg := Lib.hid hI.out.len
      have hbl := Lib.hid hI.out.bl
      clear hI
      go_wp2_with fail
      go_ret
      exact ⟨L, gs, rfl, hg.out, hfin.out, hbl.out⟩

end Go.Proofs.YtgpmmpajnfbecaaGreat
