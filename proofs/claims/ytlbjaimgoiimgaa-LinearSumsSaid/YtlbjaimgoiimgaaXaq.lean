/- Walk of divide. Walks: order of fractions (Euclid's algorithm). Walks: Compare of fractions. Plain: the text of a fraction, cut at its stroke. No program. Walks: Cut at a stroke. Walks: Read of fractions. Printed by a program (gread.py). -/
import Derived.Test.YtlbjaimgoiimgaaXap
import Derived.Test.YtlbjaimgoiimgaaXak
import Derived.Test.YtlbjaimgoiimgaaXaj
import Derived.Lib.IndexMore
import Derived.Test.YtlbjaimgoiimgaaShelf
import Derived.Lib.CutLaws
import Derived.Lib.IndexBytes
import Derived.RegionTactic
import Derived.ChangeAlike

namespace Go.Proofs.Ytlbjaimgoiimgaa
open Go.RowKit

theorem fr_one {w w' w'' : World} {g : Nat} (h : Fr (· = g) w w') (hb : Below w'.heap.size w' w'') : Fr (· = g) w w'' := h.tr (Fr.of_below hb)

set_option maxRecDepth 100000 in
set_option maxHeartbeats 8000000 in
theorem ldivide_any {S : Nat → Prop} {w : World} {g n cap : Nat} {fs : List Fc} {xs : List Rat} {f : Fc} {y : Rat} (hL : Line S w g fs xs) (hn : fs.length = n) (hm : n ≤ 1000) (hy : FA S w f y) (hy0 : y ≠ 0) (hS : ∀ b, S b → b < w.heap.size) :
    Calls Try.prog 59 #[.slice (some ⟨g, 0, none⟩) n cap, f.v] w fun e w' =>
      Fr (· = g) w w' ∧ ((∃ ys fs', divL y xs = some ys ∧ e = .returned (.int .i64 0) ∧ fs'.length = n ∧ Line S w' g fs' ys) ∨ (divL y xs = none ∧ e = .returned (.int .i64 6))) := by
  have HS := Lib.hid hS; clear hS
  have HX := Lib.hid (hL.2.1.symm.trans hn)
  have HSg := Lib.hid hL.1
  obtain ⟨s5, A5, n5, c5, s6, A6, n6, c6⟩ := f
  go_enter Try.func59, Try.ntmps59
  go_wp2_with fail
  have hb0 : Below w.heap.size w (w.alloc (.cells #[.int .i64 s5, .slice A5 n5 c5, .int .i64 s6, .slice A6 n6 c6] 40)) := (Below.refl _ _).alloc (Nat.le_refl _) _
  have kf := Blk.new w 40 #[.int .i64 s5, .slice A5 n5 c5, .int .i64 s6, .slice A6 n6 c6]
  replace hL := hL.below hb0
  replace hy := hy.below hb0
  have hG : w.heap.size ≠ g := by have := HS.out g HSg.out; omega
  obtain ⟨G, hGe⟩ : ∃ G, w.heap.size = G := ⟨_, rfl⟩
  rw [hGe] at kf hG ⊢
  have hsG : ∀ b, S b → b < G := by rw [← hGe]; exact HS.out
  have HSG := Lib.hid hsG; clear hsG
  have hfr : Fr (· = g) w (w.alloc (.cells #[.int .i64 s5, .slice A5 n5 c5, .int .i64 s6, .slice A6 n6 c6] 40)) := Fr.of_below hb0
  generalize w.alloc (.cells #[.int .i64 s5, .slice A5 n5 c5, .int .i64 s6, .slice A6 n6 c6] 40) = W at *
  clear hb0 hGe
  go_loopw [11] (fun iv wr => ∃ (i : Nat) (ys : List Rat) (fs' : List Fc), i ≤ n ∧ iv = .int .i64 i ∧ fs'.length = n ∧ Line S wr g fs' (ys ++ xs.drop i) ∧ FA S wr ⟨s5, A5, n5, c5, s6, A6, n6, c6⟩ y ∧
    Blk wr G 40 #[.int .i64 s5, .slice A5 n5 c5, .int .i64 s6, .slice A6 n6 c6] ∧ Hid (Part (fun _ x => oDiv x y) xs ys i) ∧ Fr (· = g) w wr) (fun iv _ => n - (intOf iv).toNat)
  case atStart => exact ⟨0, [], fs, Nat.zero_le _, rfl, hn, hL, hy, kf, Lib.hid (Part.start _ _), hfr⟩
  case round =>
    obtain ⟨i, ys, fs', hi, rfl, hn', hL', hy', kf', hp, hfr'⟩ := hrel
    clear hL hy kf hfr
    by_cases hgo : i < n
    · obtain ⟨c0, c1, c2, c3, hx⟩ := hL'.cells (k := i) (by omega)
      have hk := hp.out.now
      rw [hk] at hx
      clear hk
      have hgl := hL'.lt
      have hgG := kf'.lt
      have q0 := kf'.cell 0
      have q1 := kf'.cell 1
      have q2 := kf'.cell 2
      have q3 := kf'.cell 3
      simp at q0 q1 q2 q3
      obtain ⟨a, ha⟩ : ∃ a, fs'.getD i fnil = a := ⟨_, rfl⟩
      rw [ha] at c0 c1 c2 c3 hx
      clear ha
      obtain ⟨s1, A1, n1, d1, s2, A2, n2, d2⟩ := a
      obtain ⟨x, hxe⟩ : ∃ x, xs.getD i 0 = x := ⟨_, rfl⟩
      rw [hxe] at hx
      have HXE := Lib.hid hxe; clear hxe
      simp only at c0 c1 c2 c3
      go_wp2_with fail
      have hbA : Below wr.heap.size wr (wr.alloc (.cells #[.int .i64 s1, .slice A1 n1 d1, .int .i64 s2, .slice A2 n2 d2] 40)) := (Below.refl _ _).alloc (Nat.le_refl _) _
      have hLA := hL'.below hbA
      have hyA := hy'.below hbA
      have hxA := hx.below hbA
      have kfA := kf'.below hbA kf'.lt
      have hfA := fr_one hfr' hbA
      clear hL' hy' hx kf' hfr' q0 q1 q2 q3 c0 c1 c2 c3
      generalize wr.alloc (.cells #[.int .i64 s1, .slice A1 n1 d1, .int .i64 s2, .slice A2 n2 d2] 40) = W1 at *
      by_cases hok : okDiv x y
      · (with_reducible refine (fdiv_y hxA hyA hy0 hok).mono ?_)
        rintro e w1 ⟨⟨t1, B1, m1, e1, t2, B2, m2, e2⟩, rfl, ho, rb, hb1⟩
        have hq : FA S w1 ⟨t1, B1, m1, e1, t2, B2, m2, e2⟩ (x / y) := FA.own ho (fun b hb => Nat.lt_trans (HSG.out b hb) kfA.lt) rb
        have hst := Lib.hid (hp.out.step (q := x / y) (by have := HX.out; omega) (by rw [HXE.out]; unfold oDiv; exact if_pos hok))
        have hse := Lib.hid (hp.out.set_ (by have := HX.out; omega) (x / y))
        have hL1 := hLA.below hb1
        have hy1 := hyA.below hb1
        have kf1 := kfA.below hb1 kfA.lt
        have hf1 := fr_one hfA hb1
        obtain ⟨V, hV, hLV, hFV, hsV, hoV⟩ := hL1.store (k := i) (by omega) hq
        obtain ⟨c0, c1, c2, c3, _⟩ := hL1.cells (k := i) (by omega)
        have z0 := hL1.frozen (i * 4)
        have z1 := hL1.frozen (i * 4 + 1)
        have z2 := hL1.frozen (i * 4 + 2)
        have z3 := hL1.frozen (i * 4 + 3)
        have hgl := hL1.lt
        have hbB : Below V.heap.size V (V.alloc (.cells #[.int .i64 t1, .slice B1 m1 e1, .int .i64 t2, .slice B2 m2 e2] 40)) := (Below.refl _ _).alloc (Nat.le_refl _) _
        have hyV := (hy1.fr hFV).below hbB
        have kfV' : Blk V G 40 #[.int .i64 s5, .slice A5 n5 c5, .int .i64 s6, .slice A6 n6 c6] := (hoV G hG).trans kf1
        have kfV := kfV'.below hbB kfV'.lt
        have hfV : Fr (· = g) w (V.alloc (.cells #[.int .i64 t1, .slice B1 m1 e1, .int .i64 t2, .slice B2 m2 e2] 40)) := fr_one (hf1.tr ⟨hFV.1, hFV.2.1, hFV.2.2.1, hFV.size, fun b _ hb => hoV b hb⟩) hbB
        replace hLV := hLV.below hbB
        simp only at hV
        rw [hse.out] at hLV
        have HLV := Lib.hid hLV
        have HYV := Lib.hid hyV
        have HFV := Lib.hid hfV
        have HKV := Lib.hid kfV
        clear hy1 kf1 hf1 hL1 hq hLA hyA hxA kfA hfA hp hse hLV hFV hsV hoV hyV kfV hfV ho kfV' hbB
        go_wp2_with fail
        rw [← hV]
        go_roundw
        case rel => exact ⟨i + 1, ys ++ [x / y], fs'.set i ⟨t1, B1, m1, e1, t2, B2, m2, e2⟩, by omega, rfl, by simp [hn'], HLV.out, HYV.out, HKV.out, hst, HFV.out⟩
        case measure => simp [intOf]; omega
      · (with_reducible refine (fdiv_n hxA hyA hok).mono ?_)
        rintro e w1 ⟨⟨t1, B1, m1, e1, t2, B2, m2, e2⟩, rfl, hb1⟩
        have hfl := Lib.hid (hp.out.fail (by have := HX.out; omega) (by rw [HXE.out]; unfold oDiv; exact if_neg hok))
        have hfB := fr_one hfA hb1
        clear hLA hyA hxA kfA hfA hp
        go_wp2_with fail
        go_ret
        exact ⟨fr_one hfB ((Below.refl _ _).alloc (Nat.le_refl _) _), .inr ⟨hfl.out, rfl⟩⟩
    · have : i = n := by omega
      subst this
      go_wp2_with fail
      go_ret
      have he := hp.out
      have hx := HX.out
      subst hx
      rw [List.drop_length, List.append_nil] at hL'
      exact ⟨hfr', .inl ⟨ys, fs', he.done, rfl, hn', hL'⟩⟩

end Go.Proofs.Ytlbjaimgoiimgaa

namespace Go.Proofs.Ytlbjaimgoiimgaa
open Go.RowKit

section
variable {w w' W W' : World} {B g g' ga gb : Nat} {s1 s2 s3 s4 t1 t2 : Int} {A1 A2 A3 A4 C1 C2 : Option Addr} {n1 d1 n2 d2 n3 d3 n4 d4 m1 e1 m2 e2 : Nat} {p1 q1 p2 q2 r1 r2 z : Int} {s : Int} {A : Option Addr} {n c : Nat}
theorem BV.set4 (h : BV w B (.agg #[.int .i64 s, .slice A n c]) z) (hn : Nb A n g) (u0 u1 u2 u3 : Value) :
    BV ((((w.setCell ⟨g, 0, none⟩ u0).setCell ⟨g, 1, none⟩ u1).setCell ⟨g, 2, none⟩ u2).setCell ⟨g, 3, none⟩ u3) B (.agg #[.int .i64 s, .slice A n c]) z :=
  (((h.set hn 0 u0).set hn 1 u1).set hn 2 u2).set hn 3 u3
theorem Blk.far4 {t : TypeId} {cs : Array Value} (h : Blk w g' t cs) (hg : g' ≠ g) (u0 u1 u2 u3 : Value) :
    Blk ((((w.setCell ⟨g, 0, none⟩ u0).setCell ⟨g, 1, none⟩ u1).setCell ⟨g, 2, none⟩ u2).setCell ⟨g, 3, none⟩ u3) g' t cs :=
  (((h.far (p := ⟨g, 0, none⟩) hg u0).far (p := ⟨g, 1, none⟩) hg u1).far (p := ⟨g, 2, none⟩) hg u2).far (p := ⟨g, 3, none⟩) hg u3
/-- A fraction stored into its own box, whose parts lie elsewhere. -/
theorem Bf.put {t : TypeId} {a0 a1 a2 a3 : Value} (h : Blk W g t #[a0, a1, a2, a3]) (ha : BV W W.heap.size (.agg #[.int .i64 s1, .slice A1 n1 d1]) p1) (hb : BV W W.heap.size (.agg #[.int .i64 s2, .slice A2 n2 d2]) q1) (na : Nb A1 n1 g) (nb : Nb A2 n2 g) :
    Bf t ((((W.setCell ⟨g, 0, none⟩ (.int .i64 s1)).setCell ⟨g, 1, none⟩ (.slice A1 n1 d1)).setCell ⟨g, 2, none⟩ (.int .i64 s2)).setCell ⟨g, 3, none⟩ (.slice A2 n2 d2)) g s1 A1 n1 d1 s2 A2 n2 d2 p1 q1 := by
  refine ⟨h.set4 _ _ _ _, ?_, ?_⟩
  · have := ha.set4 na (.int .i64 s1) (.slice A1 n1 d1) (.int .i64 s2) (.slice A2 n2 d2)
    simpa using this
  · have := hb.set4 nb (.int .i64 s1) (.slice A1 n1 d1) (.int .i64 s2) (.slice A2 n2 d2)
    simpa using this
theorem Bf.set4 {t : TypeId} (h : Bf t W g' s1 A1 n1 d1 s2 A2 n2 d2 p1 q1) (hg : g' ≠ g) (na : Nb A1 n1 g) (nb : Nb A2 n2 g) (u0 u1 u2 u3 : Value) :
    Bf t ((((W.setCell ⟨g, 0, none⟩ u0).setCell ⟨g, 1, none⟩ u1).setCell ⟨g, 2, none⟩ u2).setCell ⟨g, 3, none⟩ u3) g' s1 A1 n1 d1 s2 A2 n2 d2 p1 q1 := by
  refine ⟨h.blk.far4 hg _ _ _ _, ?_, ?_⟩
  · have := h.fv.a.set4 na u0 u1 u2 u3
    simpa using this
  · have := h.fv.b.set4 nb u0 u1 u2 u3
    simpa using this
/-- Two boxes, of which each gets a fraction. -/
theorem Bf.both {t : TypeId} {ca cb : Array Value} {a0 a1 a2 a3 b0 b1 b2 b3 : Value} (hca : ca = #[a0, a1, a2, a3]) (hcb : cb = #[b0, b1, b2, b3]) (ka : Blk W ga t ca) (kb : Blk W gb t cb) (hne : ga ≠ gb)
    (v1 : BV W W.heap.size (.agg #[.int .i64 s1, .slice A1 n1 d1]) p1) (v2 : BV W W.heap.size (.agg #[.int .i64 s2, .slice A2 n2 d2]) q1) (v3 : BV W W.heap.size (.agg #[.int .i64 s3, .slice A3 n3 d3]) p2) (v4 : BV W W.heap.size (.agg #[.int .i64 s4, .slice A4 n4 d4]) q2)
    (x1 : Nb A1 n1 ga ∧ Nb A1 n1 gb) (x2 : Nb A2 n2 ga ∧ Nb A2 n2 gb) (x3 : Nb A3 n3 ga ∧ Nb A3 n3 gb) (x4 : Nb A4 n4 ga ∧ Nb A4 n4 gb) :
    Bf t ((((((((W.setCell ⟨ga, 0, none⟩ (.int .i64 s1)).setCell ⟨ga, 1, none⟩ (.slice A1 n1 d1)).setCell ⟨ga, 2, none⟩ (.int .i64 s2)).setCell ⟨ga, 3, none⟩ (.slice A2 n2 d2)).setCell ⟨gb, 0, none⟩ (.int .i64 s3)).setCell ⟨gb, 1, none⟩ (.slice A3 n3 d3)).setCell ⟨gb, 2, none⟩ (.int .i64 s4)).setCell ⟨gb, 3, none⟩ (.slice A4 n4 d4)) ga s1 A1 n1 d1 s2 A2 n2 d2 p1 q1 ∧
    Bf t ((((((((W.setCell ⟨ga, 0, none⟩ (.int .i64 s1)).setCell ⟨ga, 1, none⟩ (.slice A1 n1 d1)).setCell ⟨ga, 2, none⟩ (.int .i64 s2)).setCell ⟨ga, 3, none⟩ (.slice A2 n2 d2)).setCell ⟨gb, 0, none⟩ (.int .i64 s3)).setCell ⟨gb, 1, none⟩ (.slice A3 n3 d3)).setCell ⟨gb, 2, none⟩ (.int .i64 s4)).setCell ⟨gb, 3, none⟩ (.slice A4 n4 d4)) gb s3 A3 n3 d3 s4 A4 n4 d4 p2 q2 := by
  subst hca hcb
  have k1 := Bf.put ka v1 v2 x1.1 x2.1
  have w3 := v3.set4 x3.1 (.int .i64 s1) (.slice A1 n1 d1) (.int .i64 s2) (.slice A2 n2 d2)
  have w4 := v4.set4 x4.1 (.int .i64 s1) (.slice A1 n1 d1) (.int .i64 s2) (.slice A2 n2 d2)
  have kb1 := kb.far4 hne.symm (.int .i64 s1) (.slice A1 n1 d1) (.int .i64 s2) (.slice A2 n2 d2)
  exact ⟨k1.set4 hne x1.2 x2.2 _ _ _ _, Bf.put kb1 (by simpa using w3) (by simpa using w4) x3.2 x4.2⟩
theorem Bf.drew {t : TypeId} (h : Bf t W g s1 A1 n1 d1 s2 A2 n2 d2 p1 q1) : Bf t W.drew g s1 A1 n1 d1 s2 A2 n2 d2 p1 q1 := ⟨h.blk.drewN 1, h.fv.a, h.fv.b⟩
theorem BO.nb (h : BO w B (.agg #[.int .i64 s, .slice A n c]) z) (hg : g < B) : Nb A n g := Nb.high h hg
end

theorem qr_bd {p q x r : Int} (hq : 0 < q) (h : QR p q x r) : ab x ≤ ab p ∧ 0 ≤ r ∧ r < q := by
  obtain ⟨a1, a2, a3⟩ := floor_of hq h
  refine ⟨?_, a2, a3⟩
  unfold ab
  rcases Int.lt_or_le x 0 with g | g
  · have : (x + 1) * q ≤ (x + 1) * 1 := Int.mul_le_mul_of_nonpos_left (by omega) (by omega)
    rw [Int.add_mul] at this
    omega
  · have : x * 1 ≤ x * q := Int.mul_le_mul_of_nonneg_left (by omega) g
    omega
/-- The signs of what is left over, and the order. -/
theorem sgn_nn {r : Int} (h : 0 ≤ r) : sgn r = if r = 0 then 0 else 1 := by
  unfold sgn; rw [if_neg (by omega)]

set_option maxRecDepth 100000 in
set_option maxHeartbeats 8000000 in
theorem forder_any (s1 s2 s3 s4 : Int) (A1 A2 A3 A4 : Option Addr) (n1 d1 n2 d2 n3 d3 n4 d4 : Nat) (p1 q1 p2 q2 : Int) (w : World) (ha : FV w w.heap.size s1 A1 n1 d1 s2 A2 n2 d2 p1 q1) (hb : FV w w.heap.size s3 A3 n3 d3 s4 A4 n4 d4 p2 q2) (h1 : ab p1 < pw 60) (h2 : ab q1 < pw 60) (h3 : ab p2 < pw 60) (h4 : ab q2 < pw 60) (f1 : 0 < q1) (f2 : 0 < q2) :
    Calls Try.prog 66 #[.agg #[.int .i64 s1, .slice A1 n1 d1, .int .i64 s2, .slice A2 n2 d2], .agg #[.int .i64 s3, .slice A3 n3 d3, .int .i64 s4, .slice A4 n4 d4]] w fun e w' => e = .returned (.int .i64 (ordI p1 q1 p2 q2)) ∧ Below w.heap.size w w' := by
  have na2 : Nb A2 n2 w.heap.size ∧ Nb A2 n2 (w.heap.size + 1) := ⟨Nb.low ha.b (Nat.le_refl _), Nb.low ha.b (by omega)⟩
  have na4 : Nb A4 n4 w.heap.size ∧ Nb A4 n4 (w.heap.size + 1) := ⟨Nb.low hb.b (Nat.le_refl _), Nb.low hb.b (by omega)⟩
  obtain ⟨G, hG⟩ : ∃ G, ordI p1 q1 p2 q2 = G := ⟨_, rfl⟩
  rw [hG]
  have HG := Lib.hid hG; clear hG
  have H1 := Lib.hid h1; clear h1
  have H2 := Lib.hid h2; clear h2
  have H3 := Lib.hid h3; clear h3
  have H4 := Lib.hid h4; clear h4
  have NA2 := Lib.hid na2; clear na2
  have NA4 := Lib.hid na4; clear na4
  go_enter Try.func66, Try.ntmps66
  go_wp2_with fail
  obtain ⟨W0, hW, hbx, ka, kb⟩ := fboxes1 ha hb
  have hsz0 : w.heap.size + 1 < W0.heap.size := kb.blk.lt
  rw [← hW]
  clear hW ha hb
  go_loopg [5] (q1.toNat) (fun g S wr => ∃ (s1 s2 s3 s4 : Int) (A1 A2 A3 A4 : Option Addr) (n1 d1 n2 d2 n3 d3 n4 d4 : Nat) (p1 q1 p2 q2 z : Int), g = q1.toNat ∧ S = .int .i64 z ∧ (z = 1 ∨ z = -1) ∧ Bf 40 wr w.heap.size s1 A1 n1 d1 s2 A2 n2 d2 p1 q1 ∧ Bf 40 wr (w.heap.size + 1) s3 A3 n3 d3 s4 A4 n4 d4 p2 q2 ∧ Hid (Nb A2 n2 w.heap.size ∧ Nb A2 n2 (w.heap.size + 1)) ∧ Hid (Nb A4 n4 w.heap.size ∧ Nb A4 n4 (w.heap.size + 1)) ∧ Hid (ab p1 < pw 60) ∧ Hid (ab q1 < pw 60) ∧ Hid (ab p2 < pw 60) ∧ Hid (ab q2 < pw 60) ∧ 0 < q1 ∧ 0 < q2 ∧ Hid (z * ordI p1 q1 p2 q2 = G) ∧ Below w.heap.size w wr)
  case atStart => exact ⟨s1, s2, s3, s4, A1, A2, A3, A4, n1, d1, n2, d2, n3, d3, n4, d4, p1, q1, p2, q2, 1, rfl, rfl, .inl rfl, ka, kb, NA2, NA4, H1, H2, H3, H4, f1, f2, Lib.hid (by rw [Int.one_mul]; exact HG.out), hbx⟩
  case round =>
    clear ka kb H1 H2 H3 H4 NA2 NA4 HG hbx f1 f2
    obtain ⟨s1, s2, s3, s4, A1, A2, A3, A4, n1, d1, n2, d2, n3, d3, n4, d4, p1, q1, p2, q2, z, hg, rfl, hz, ka, kb, N2, N4, H1, H2, H3, H4, f1, f2, HG, hT⟩ := hrel
    have hgt : q1.toNat ≤ q1.toNat := Nat.le_refl _
    have HGM := Lib.hid hg; clear hg hgt
    have F1 := Lib.hid f1; clear f1
    have F2 := Lib.hid f2; clear f2
    have a0 := ka.c0
    have a1 := ka.c1
    have a2 := ka.c2
    have a3 := ka.c3
    go_wp2_with fail
    clear a0 a1 a2 a3
    (with_reducible refine (div_any _ _ _ _ _ ka.fv.a ka.fv.b H1.out H2.out (by have := F1.out; omega)).mono ?_)
    rintro e u2 ⟨rz, rm, x, r1, rfl, hrz, hrm, hqr, hb9⟩
    have lt0 := ka.blk.lt
    have lt1 := kb.blk.lt
    have hT := hT.trans (hb9.mono hT.size)
    have ka := ka.below hb9
    have kb := kb.below hb9
    have HQ1 := Lib.hid hqr; clear hqr
    obtain ⟨sx, Ax, nx, cx, rfl⟩ := hrz.form
    obtain ⟨sr, Ar, nr, cr, rfl⟩ := hrm.form
    have nbr : Nb Ar nr w.heap.size ∧ Nb Ar nr (w.heap.size + 1) := ⟨hrm.nb lt0, hrm.nb lt1⟩
    have NBR := Lib.hid nbr; clear nbr
    have hsz := hb9.size
    have nr1 : u2.heap.size + 1 ≠ w.heap.size := by omega
    have nr2 : u2.heap.size + 1 ≠ w.heap.size + 1 := by omega
    have NR := Lib.hid (And.intro nr1 nr2); clear nr1 nr2 hsz
    have kbz := kb.below (((Below.refl _ u2).alloc (Nat.le_refl _) (.cells #[.int .i64 sx, .slice Ax nx cx] 38)).alloc (by simp) (.cells #[.int .i64 sr, .slice Ar nr cr] 38))
    have b0 := kbz.c0
    have b1 := kbz.c1
    have b2 := kbz.c2
    have b3 := kbz.c3
    go_wp2_with fail
    clear b0 b1 b2 b3 kbz
    obtain ⟨Wx, hW, hbx, kx, kr⟩ := box2 hrz hrm
    rw [← hW]
    clear hW
    have hT := hT.trans (hbx.mono hT.size)
    have ka := ka.below hbx
    have kb := kb.below hbx
    (with_reducible refine (div_any _ _ _ _ _ kb.fv.a kb.fv.b H3.out H4.out (by have := F2.out; omega)).mono ?_)
    rintro e u3 ⟨ry, rt, y, r2, rfl, hry, hrt, hqr, hb9⟩
    have lt0 := ka.blk.lt
    have lt1 := kb.blk.lt
    have hT := hT.trans (hb9.mono hT.size)
    have ka := ka.below hb9
    have kb := kb.below hb9
    have kx := kx.below hb9
    have kr := kr.below hb9
    have HQ2 := Lib.hid hqr; clear hqr
    obtain ⟨sy, Ay, ny, cy, rfl⟩ := hry.form
    obtain ⟨st, At, nt, ct, rfl⟩ := hrt.form
    have nbt : Nb At nt w.heap.size ∧ Nb At nt (w.heap.size + 1) := ⟨hrt.nb lt0, hrt.nb lt1⟩
    have NBT := Lib.hid nbt; clear nbt
    have hsz := hb9.size
    have nt1 : u3.heap.size + 1 ≠ w.heap.size := by omega
    have nt2 : u3.heap.size + 1 ≠ w.heap.size + 1 := by omega
    have NT := Lib.hid (And.intro nt1 nt2); clear nt1 nt2 lt0 lt1 hsz
    obtain ⟨W2, hW, hbx2, ky, kt⟩ := box2 hry hrt
    have kxz := kx.below hbx2
    have b0 := kxz.c0
    have b1 := kxz.c1
    have e0 := ky.c0
    have e1 := ky.c1
    rw [hW] at b0 b1 e0 e1
    go_wp2_with fail
    clear b0 b1 e0 e1 kxz
    rw [← hW]
    clear hW
    have hT := hT.trans (hbx2.mono hT.size)
    have ka := ka.below hbx2
    have kb := kb.below hbx2
    have kx := kx.below hbx2
    have kr := kr.below hbx2
    (with_reducible refine (compare_any _ _ _ _ _ kx.bv ky.bv (by have := (qr_bd F1.out HQ1.out).1; have := H1.out; omega) (by have := (qr_bd F2.out HQ2.out).1; have := H3.out; omega)).mono ?_)
    rintro e u4 ⟨rfl, hb9⟩
    have hT := hT.trans (hb9.mono hT.size)
    have ka := ka.below hb9
    have kb := kb.below hb9
    have kr := kr.below hb9
    have kt := kt.below hb9
    clear kx ky
    by_cases hxy : x = y
    rotate_left
    · have ho := ord_ne F1.out F2.out HQ1.out HQ2.out hxy
      have hg2 := HG.out
      rw [ho] at hg2
      clear ho
      rcases cmp_cases x y with ⟨_, hc⟩ | ⟨hc, _⟩ | ⟨_, hc⟩
      · rw [hc] at hg2 ⊢
        rcases hz with rfl | rfl
        all_goals
          subst hg2
          go_wp2_with fail
          go_ret
          exact ⟨rfl, hT⟩
      · exact absurd hc hxy
      · rw [hc] at hg2 ⊢
        rcases hz with rfl | rfl
        all_goals
          subst hg2
          go_wp2_with fail
          go_ret
          exact ⟨rfl, hT⟩
    subst hxy
    rw [cmp_of_eq rfl]
    have hr1 := qr_bd F1.out HQ1.out
    have hr2 := qr_bd F2.out HQ2.out
    have ho := ord_eq HQ1.out HQ2.out
    have hsr : sr = sgn r1 := kr.sg
    have hst : st = sgn r2 := kt.sg
    have hab1 : ab r1 < pw 60 := by have := H2.out; unfold ab at *; omega
    have hab2 : ab r2 < pw 60 := by have := H4.out; unfold ab at *; omega
    have HB1 := Lib.hid hab1; clear hab1
    have HB2 := Lib.hid hab2; clear hab2
    have c0 := kr.c0
    have c1 := kt.c0
    have hg2 := HG.out
    rw [ho] at hg2
    clear ho
    by_cases hz1 : r1 = 0
    · have hcmp := ord_zero F1.out F2.out hr1.2.1 hr2.2.1 (.inl hz1)
      rw [hcmp] at hg2
      clear hcmp
      have hs1 : sr = 0 := by rw [hsr, hz1]; rfl
      subst hs1
      rw [← hsr, ← hst] at hg2
      rcases Int.lt_or_eq_of_le hr2.2.1 with g | g
      · have hs2 : st = 1 := by rw [hst, sgn_pos g]
        subst hs2
        rw [cmp_of_lt (by decide)] at hg2
        have HCM := Lib.hid (cmp_of_lt (show (0 : Int) < 1 by decide))
        clear hsr hst hr1 hr2 hz1 g
        rcases hz with rfl | rfl
        all_goals
          subst hg2
          go_wp2_with fail
          (with_reducible refine (Try.cmp_Compare_int _ _ _).mono ?_)
          rintro e w' ⟨rfl, rfl⟩
          rw [HCM.out]
          go_wp2_with fail
          go_ret
          exact ⟨rfl, hT⟩
      · have hs2 : st = 0 := by rw [hst, ← g]; rfl
        subst hs2
        rw [cmp_of_eq rfl] at hg2
        have HCM := Lib.hid (cmp_of_eq (show (0 : Int) = 0 from rfl))
        clear hsr hst hr1 hr2 hz1 g
        rcases hz with rfl | rfl
        all_goals
          subst hg2
          go_wp2_with fail
          (with_reducible refine (Try.cmp_Compare_int _ _ _).mono ?_)
          rintro e w' ⟨rfl, rfl⟩
          rw [HCM.out]
          go_wp2_with fail
          go_ret
          exact ⟨rfl, hT⟩
    · have hs1 : sr = 1 := by rw [hsr, sgn_pos (by omega)]
      subst hs1
      rcases Int.lt_or_eq_of_le hr2.2.1 with g | g
      · have hs2 : st = 1 := by rw [hst, sgn_pos g]
        subst hs2
        rw [show ordI r1 q1 r2 q2 = -ordI q1 r1 q2 r2 from ord_turn _ _ _ _] at hg2
        have hg3 : -z * ordI q1 r1 q2 r2 = G := by rw [← hg2, Int.neg_mul, Int.mul_neg]
        have HG3 := Lib.hid hg3; clear hg3 hg2
        have hlt : r1 < q1 := hr1.2.2
        have R1 : 0 < r1 := by omega
        clear hsr hst hr1 hr2 hz1
        have a2 := ka.c2
        have a3 := ka.c3
        have b2 := kb.c2
        have b3 := kb.c3
        have r1' := kr.c1
        have t1' := kt.c1
        have a0 := ka.c0
        have a1 := ka.c1
        have b0 := kb.c0
        have b1 := kb.c1
        have fa0 := ka.blk.frozen 0
        have fa1 := ka.blk.frozen 1
        have fa2 := ka.blk.frozen 2
        have fa3 := ka.blk.frozen 3
        have fb0 := kb.blk.frozen 0
        have fb1 := kb.blk.frozen 1
        have fb2 := kb.blk.frozen 2
        have fb3 := kb.blk.frozen 3
        obtain ⟨gr, hgr⟩ : ∃ g, u2.heap.size + 1 = g := ⟨_, rfl⟩
        obtain ⟨gt, hgt⟩ : ∃ g, u3.heap.size + 1 = g := ⟨_, rfl⟩
        obtain ⟨ga, hga⟩ : ∃ g, w.heap.size = g := ⟨_, rfl⟩
        have nr1 := NR.out.1
        have nr2 := NR.out.2
        have nt1 := NT.out.1
        have nt2 := NT.out.2
        have nga : ga + 1 ≠ ga := by omega
        have nga' : ga ≠ ga + 1 := by omega
        rw [hgr] at nr1 nr2 c0 r1'
        rw [hgt] at nt1 nt2 c1 t1'
        rw [hga] at nr1 nr2 nt1 nt2 a0 a1 a2 a3 b0 b1 b2 b3 fa0 fa1 fa2 fa3 fb0 fb1 fb2 fb3
        rw [hgr, hgt, hga]
        have m1 := nr1.symm
        have m2 := nr2.symm
        have m3 := nt1.symm
        have m4 := nt2.symm
        go_wp2_with fail
        go_region
        clear a0 a1 a2 a3 b0 b1 b2 b3 fa0 fa1 fa2 fa3 fb0 fb1 fb2 fb3 c0 c1 r1' t1'
        subst hga
        obtain ⟨ka, kb⟩ := Bf.both (ga := w.heap.size) (gb := w.heap.size + 1) rfl rfl ka.blk kb.blk (by omega) ka.fv.b kr.bv kb.fv.b kt.bv N2.out NBR.out N4.out NBT.out
        have hT := below_st4 (below_st4 hT (Nat.le_refl _) (.int .i64 s2) (.slice A2 n2 d2) (.int .i64 1) (.slice Ar nr cr)) (show w.heap.size ≤ w.heap.size + 1 by omega) (.int .i64 s4) (.slice A4 n4 d4) (.int .i64 1) (.slice At nt ct)
        have ka := ka.drew
        have kb := kb.drew
        have hT := hT.drew
        have z0 : -1 ≤ z ∧ z ≤ 1 := by omega
        obtain ⟨z0, z1⟩ := z0
        have hz' : -z = 1 ∨ -z = -1 := by omega
        have HZ := Lib.hid hz'; clear hz'
        clear hz
        go_wp2_with fail
        go_roundg r1.toNat
        case measure => have := HGM.out; omega
        case rel => exact ⟨s2, 1, s4, 1, A2, Ar, A4, At, n2, d2, nr, cr, n4, d4, nt, ct, q1, r1, q2, r2, -z, rfl, rfl, HZ.out, ka, kb, NBR, NBT, H2, HB1, H4, HB2, R1, g, HG3, hT⟩
      · have hs2 : st = 0 := by rw [hst, ← g]; rfl
        have hcmp := ord_zero F1.out F2.out hr1.2.1 hr2.2.1 (.inr g.symm)
        rw [hcmp] at hg2
        clear hcmp
        rw [← hsr, ← hst] at hg2
        subst hs2
        rw [cmp_of_gt (by decide)] at hg2
        have HCM := Lib.hid (cmp_of_gt (show (0 : Int) < 1 by decide))
        clear hsr hst hr1 hr2 hz1 g
        rcases hz with rfl | rfl
        all_goals
          subst hg2
          go_wp2_with fail
          (with_reducible refine (Try.cmp_Compare_int _ _ _).mono ?_)
          rintro e w' ⟨rfl, rfl⟩
          rw [HCM.out]
          go_wp2_with fail
          go_ret
          exact ⟨rfl, hT⟩

end Go.Proofs.Ytlbjaimgoiimgaa

namespace Go.Proofs.Ytlbjaimgoiimgaa
open Go.RowKit

set_option maxRecDepth 100000 in
set_option maxHeartbeats 8000000 in
theorem rcompare {s1 s2 s3 s4 : Int} {A1 A2 A3 A4 : Option Addr} {n1 d1 n2 d2 n3 d3 n4 d4 : Nat} {x y : Rat} (w : World) (ha : FV w w.heap.size s1 A1 n1 d1 s2 A2 n2 d2 x.num x.den) (hb : FV w w.heap.size s3 A3 n3 d3 s4 A4 n4 d4 y.num y.den) (hx : Rb x 60 60) (hy : Rb y 60 60) :
    Calls Try.prog 46 #[.agg #[.int .i64 s1, .slice A1 n1 d1, .int .i64 s2, .slice A2 n2 d2], .agg #[.int .i64 s3, .slice A3 n3 d3, .int .i64 s4, .slice A4 n4 d4]] w fun e w' => e = .returned (.int .i64 (cmpR x y)) ∧ Below w.heap.size w w' := by
  have HX := Lib.hid hx; clear hx
  have HY := Lib.hid hy; clear hy
  obtain ⟨C, hC⟩ : ∃ C, cmpR x y = C := ⟨_, rfl⟩
  rw [hC]
  have HC := Lib.hid hC; clear hC
  go_enter Try.func46, Try.ntmps46
  go_wp2_with fail
  obtain ⟨W0, hW, hbx, ka, kb⟩ := fboxes1 ha hb
  rw [← hW]
  clear hW ha hb
  have hT := hbx
  have a0 := ka.c0
  have a1 := ka.c1
  have a2 := ka.c2
  have a3 := ka.c3
  go_wp2_with fail
  clear a0 a1 a2 a3
  (with_reducible refine (rright _ ka.fv HX.out).mono ?_)
  rintro e u1 ⟨rfl, hb9⟩
  have hT := hT.trans (hb9.mono hT.size)
  have ka := ka.below hb9
  have kb := kb.below hb9
  have b0 := kb.c0
  have b1 := kb.c1
  have b2 := kb.c2
  have b3 := kb.c3
  go_wp2_with fail
  clear b0 b1 b2 b3
  (with_reducible refine (rright _ kb.fv HY.out).mono ?_)
  rintro e u2 ⟨rfl, hb9⟩
  have hT := hT.trans (hb9.mono hT.size)
  have ka := ka.below hb9
  have kb := kb.below hb9
  have a0 := ka.c0
  have a1 := ka.c1
  have b0 := kb.c0
  have b1 := kb.c1
  go_wp2_with fail
  clear a0 a1 b0 b1
  (with_reducible refine (same_any _ _ _ _ _ ka.fv.a kb.fv.a).mono ?_)
  rintro e u3 ⟨rfl, hb9⟩
  have hT := hT.trans (hb9.mono hT.size)
  have ka := ka.below hb9
  have kb := kb.below hb9
  by_cases hn : x.num = y.num
  · rw [decide_eq_true hn]
    have a2 := ka.c2
    have a3 := ka.c3
    have b2 := kb.c2
    have b3 := kb.c3
    have HN := Lib.hid hn; clear hn
    go_wp2_with fail
    clear a2 a3 b2 b3
    (with_reducible refine (same_any _ _ _ _ _ ka.fv.b kb.fv.b).mono ?_)
    rintro e u4 ⟨rfl, hb9⟩
    have hT := hT.trans (hb9.mono hT.size)
    have ka := ka.below hb9
    have kb := kb.below hb9
    by_cases hd : (x.den : Int) = y.den
    · rw [decide_eq_true hd]
      have hc0 : C = 0 := by rw [← HC.out]; exact cmpR_zero.2 (Rat.ext HN.out (by omega))
      subst hc0
      clear hd
      go_wp2_with fail
      go_ret
      exact ⟨rfl, hT⟩
    · rw [decide_eq_false hd]
      have a0 := ka.c0
      have a1 := ka.c1
      have a2 := ka.c2
      have a3 := ka.c3
      have b0 := kb.c0
      have b1 := kb.c1
      have b2 := kb.c2
      have b3 := kb.c3
      clear hd
      go_wp2_with fail
      clear a0 a1 a2 a3 b0 b1 b2 b3
      (with_reducible refine (forder_any _ _ _ _ _ _ _ _ _ _ _ _ _ _ _ _ _ _ _ _ _ ka.fv kb.fv HX.out.n HX.out.d HY.out.n HY.out.d (FR.pos (FR.of x)) (FR.pos (FR.of y))).mono ?_)
      rintro e u5 ⟨rfl, hb9⟩
      have hT := hT.trans (hb9.mono hT.size)
      rw [ordR, HC.out]
      go_wp2_with fail
      go_ret
      exact ⟨rfl, hT⟩
  · rw [decide_eq_false hn]
    have a0 := ka.c0
    have a1 := ka.c1
    have a2 := ka.c2
    have a3 := ka.c3
    have b0 := kb.c0
    have b1 := kb.c1
    have b2 := kb.c2
    have b3 := kb.c3
    clear hn
    go_wp2_with fail
    clear a0 a1 a2 a3 b0 b1 b2 b3
    (with_reducible refine (forder_any _ _ _ _ _ _ _ _ _ _ _ _ _ _ _ _ _ _ _ _ _ ka.fv kb.fv HX.out.n HX.out.d HY.out.n HY.out.d (FR.pos (FR.of x)) (FR.pos (FR.of y))).mono ?_)
    rintro e u5 ⟨rfl, hb9⟩
    have hT := hT.trans (hb9.mono hT.size)
    rw [ordR, HC.out]
    go_wp2_with fail
    go_ret
    exact ⟨rfl, hT⟩

end Go.Proofs.Ytlbjaimgoiimgaa

namespace Go.Proofs.Ytlbjaimgoiimgaa
open Go.RowKit

theorem pre47 (b : UInt8) (l : List UInt8) : [47].isPrefixOf (b :: l) = (47 == b) := by simp [List.isPrefixOf]
theorem index47_none {s : List UInt8} (h : (47 : UInt8) ∉ s) : Lib.index s [47] = -1 := by
  induction s with
  | nil => rfl
  | cons b l ih =>
    rw [List.mem_cons, not_or] at h
    unfold Lib.index
    rw [pre47, beq_eq_false_iff_ne.2 h.1, ih h.2]
    rfl
theorem index47 {a : List UInt8} (h : (47 : UInt8) ∉ a) (b : List UInt8) : Lib.index (a ++ 47 :: b) [47] = a.length := by
  induction a with
  | nil => unfold Lib.index; rw [List.nil_append]; simp
  | cons c l ih =>
    rw [List.mem_cons, not_or] at h
    rw [List.cons_append]
    unfold Lib.index
    rw [pre47, beq_eq_false_iff_ne.2 h.1, ih h.2, beq_eq_false_iff_ne.2 (show (l.length : Int) ≠ -1 by omega)]
    simp
theorem cut47_none {s : List UInt8} (h : (47 : UInt8) ∉ s) : Lib.cut s [47] = (s, [], false) := by
  unfold Lib.cut; rw [index47_none h, if_neg (by decide)]
theorem cut47 {a : List UInt8} (h : (47 : UInt8) ∉ a) (b : List UInt8) : Lib.cut (a ++ 47 :: b) [47] = (a, b, true) := by
  unfold Lib.cut; rw [index47 h, if_pos (by omega)]; simp
theorem split47 (s : List UInt8) : (47 : UInt8) ∉ s ∨ ∃ a b, (47 : UInt8) ∉ a ∧ s = a ++ 47 :: b := by
  induction s with
  | nil => exact .inl (by simp)
  | cons c l ih =>
    by_cases hc : c = 47
    · subst hc; exact .inr ⟨[], l, by simp, rfl⟩
    · rcases ih with h | ⟨a, b, h, rfl⟩
      · exact .inl (by rw [List.mem_cons, not_or]; exact ⟨fun e => hc e.symm, h⟩)
      · exact .inr ⟨c :: a, b, by rw [List.mem_cons, not_or]; exact ⟨fun e => hc e.symm, h⟩, rfl⟩
theorem itoa47 (z : Int) : (47 : UInt8) ∉ Lib.itoa z := by
  rw [itoa_ab]
  intro h
  rcases List.mem_append.1 h with h | h
  · split at h <;> simp at h
  · have := dd_all (ab z).toNat 47 h
    unfold isD at this
    exact absurd this.1 (by decide)
theorem itoa_ne (z : Int) : Lib.itoa z ≠ [] := by
  rw [itoa_ab]
  intro h
  exact dd_ne (ab z).toNat (List.append_eq_nil_iff.1 h).2
/-- The text of a fraction. -/
def ftx (x : Rat) : List UInt8 := Lib.itoa x.num ++ 47 :: Lib.itoa x.den
theorem ftx_cut (x : Rat) : Lib.cut (ftx x) [47] = (Lib.itoa x.num, Lib.itoa x.den, true) := cut47 (itoa47 _) _
/-- A string is the text of the fraction that its parts give, or of none. -/
theorem ftx_of {s : List UInt8} {x : Rat} (h1 : (Lib.cut s [47]).1 = Lib.itoa x.num) (h2 : (Lib.cut s [47]).2.1 = Lib.itoa x.den) : s = ftx x := by
  rcases split47 s with h | ⟨a, b, ha, rfl⟩
  · rw [cut47_none h] at h2
    exact absurd h2.symm (itoa_ne _)
  · rw [cut47 ha] at h1 h2
    simp only at h1 h2
    unfold ftx
    rw [h1, h2]
theorem ftx_inj {x y : Rat} (h : ftx x = ftx y) : x = y := by
  have h1 := ftx_cut x
  rw [h, ftx_cut y] at h1
  simp only [Prod.mk.injEq, and_true] at h1
  exact Rat.ext (itoa_inj h1.1.symm) (by have := itoa_inj h1.2; omega)

end Go.Proofs.Ytlbjaimgoiimgaa

namespace Go.Proofs.Ytlbjaimgoiimgaa
open Go.RowKit

def CutP (s : ByteArray) (w : World) (e : Ending) (w' : World) : Prop :=
  e = .returned (.tuple #[.string (byt (Lib.cut (bts s) [47]).1), .string (byt (Lib.cut (bts s) [47]).2.1), .bool (Lib.cut (bts s) [47]).2.2]) ∧ ∃ n, w' = w.drewN n

end Go.Proofs.Ytlbjaimgoiimgaa

namespace Go.Proofs.Ytlbjaimgoiimgaa
open Go.RowKit

theorem cut_len (l : List UInt8) : (Lib.cut l [47]).1.length ≤ l.length ∧ (Lib.cut l [47]).2.1.length ≤ l.length := by
  rcases split47 l with h | ⟨a, b, h, rfl⟩
  · rw [cut47_none h]; simp
  · rw [cut47 h]; simp only [List.length_append, List.length_cons]; omega
end Go.Proofs.Ytlbjaimgoiimgaa
