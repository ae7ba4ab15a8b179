/- Walks: Neg, Gcd. -/
import Derived.Test.YtofndidngjglmaaDoorU
namespace Go.Proofs.YtofndidngjglmaaDoor
open Go.RowKit

set_option maxRecDepth 100000 in
set_option maxHeartbeats 1000000 in
theorem neg_any (x : Int) (vx : Value) (w : World) (hx : BV w w.heap.size vx x) (hx6 : ab x < pw 60) :
    Calls Tryd.prog 21 #[vx] w (OfP (-x) w) := by
  obtain ⟨A1, c1, rfl, hc1, hm1, hI1⟩ := hx
  have hl1 := len60 hx6
  have hr1 := fun (w' : World) (hb : Below w.heap.size w w') => right_any (sgn x) (D (ab x)) A1 c1 w' ((hI1.below hb).more hb.size) (by omega) true (by simp [rightP_of hx6])
  have hclo := fun (w' : World) (hb : Below w.heap.size w w') => clone_any (D (ab x)) A1 c1 w' ((hI1.below hb).more hb.size) (by omega)
  rw [← ab_neg x] at hclo
  have hnum := fun A c w' => number_any (-x) (-sgn x) A c w' (fun _ => (sgn_neg x).symm)
  have HNUM := Lib.hid hnum; clear hnum
  rw [ab_neg x] at hclo
  obtain ⟨l, hl⟩ : ∃ l, D (ab x) = l := ⟨_, rfl⟩
  have hlz : D (ab (-x)) = l := by rw [ab_neg, hl]
  have HLZ := Lib.hid hlz; clear hlz
  rw [hl] at hr1 hclo ⊢
  obtain ⟨n1, hn1⟩ : ∃ n, l.length = n := ⟨_, rfl⟩
  have HN1 := Lib.hid hn1
  rw [hn1] at hr1 hclo ⊢
  have hs1 := sgn_bd x
  obtain ⟨s1, hs1e⟩ : ∃ s, sgn x = s := ⟨_, rfl⟩
  rw [hs1e] at hr1 hs1 HNUM ⊢
  have HR1 := Lib.hid hr1; clear hr1
  have HCLO := Lib.hid hclo; clear hclo
  clear hn1 hs1e hI1 hx6 hc1 hl hl1
  go_enter Tryd.func21, Tryd.ntmps21
  go_wp2_with fail
  obtain ⟨w1, hw1, hb1, k1, k3, hsz⟩ := boxes2 w #[.int .i64 s1, .slice A1 n1 c1] #[.int .i64 0, .slice none 0 0]
  rw [← hw1]
  clear hw1
  (with_reducible refine (HR1.out w1 hb1).mono ?_)
  rintro e w3 ⟨rfl, hb2⟩
  have k1 := k1.below hb2 k1.lt
  have k3 := k3.below hb2 k3.lt
  have hs3' := hb2.size
  have hb3 := hb1.trans (hb2.mono hb1.size)
  clear hb1 hb2 HR1
  obtain ⟨g, hg⟩ : ∃ g, w.heap.size + 1 = g := ⟨_, rfl⟩
  have hgw : w.heap.size < g ∧ g < w3.heap.size := by have := k3.lt; omega
  rw [hg] at k3 ⊢
  clear hg hsz hs3'
  have e0 : ∀ W' : World, Below g w3 W' → W'.cell? ⟨w.heap.size, 0, none⟩ = some (.int .i64 s1) ∧ W'.cell? ⟨w.heap.size, 1, none⟩ = some (.slice A1 n1 c1) ∧ Below g w3 W' := fun W' hW =>
    ⟨(k1.below hW (by omega)).cell 0, (k1.below hW (by omega)).cell 1, hW⟩
  have E0 := Lib.hid e0; clear e0
  have hwm : IntKind.i64.wrap (-s1) = -s1 := IntWalk.i64_in _ (by omega)
  have hB00 : Below g w3 w3.drew := (Below.refl _ _).drew
  have hB01 : Below w3.heap.size w3 w3.drew := (Below.refl _ _).drew
  go_wp2_with fail
  go_region_held3 (fun W' => W'.cell? ⟨w.heap.size, 0, none⟩ = some (.int .i64 s1) ∧ W'.cell? ⟨w.heap.size, 1, none⟩ = some (.slice A1 n1 c1) ∧ Below g w3 W')
    (first | exact E0.out _ (by assumption) | exact E0.out _ ⟨rfl, rfl, rfl, Nat.le_refl _, fun _ _ => rfl⟩)
    (first
      | (go_at_call 38; refine (HCLO.out w3.drew ⟨hb3.os, hb3.tape, hb3.output, hb3.size, hb3.block⟩).mono ?_; rintro e w4 ⟨v4, rfl, hown4, hb4⟩; have hB4 : Below w3.heap.size w3 w4 := ⟨hb4.os, hb4.tape, hb4.output, hb4.size, hb4.block⟩; have hB4g : Below g w3 w4 := hB4.mono (by omega); rw [← HLZ.out] at hown4; obtain ⟨A4, c4, rfl, hc4, hm4, hI4⟩ := hown4.at_)
      | (go_at_call 29; refine (HNUM.out _ _ _).mono ?_; rintro e w5 ⟨r, rfl, hr, hb5⟩; have HR := Lib.hid hr; obtain ⟨s', A', n', c', rfl⟩ := hr.form; clear hr; have hB5 : Below w3.heap.size w3 w5 := hB4.trans (hb5.mono hB4.size); have hB5g : Below g w3 w5 := hB5.mono (by omega); have hbk := k3.below hB5 (by omega); have q0 : w5.cell? ⟨g, 0, none⟩ = some (.int .i64 0) := hbk.cell 0; have q1 : w5.cell? ⟨g, 1, none⟩ = some (.slice none 0 0) := hbk.cell 1; have f0 := hbk.frozen 0; have f1 := hbk.frozen 1; have hB6 := (hB5g.setCell (p := ⟨g, 0, none⟩) (Nat.le_refl _) (.int .i64 s')).setCell (p := ⟨g, 1, none⟩) (Nat.le_refl _) (.slice A' n' c')))
  have hbs := hbk.set2 (.int .i64 s') (.slice A' n' c')
  have hd0 := hbs.cell 0
  have hd1 := hbs.cell 1
  simp at hd0 hd1
  go_wp2_with fail
  refine bodyPost_ret (v := .agg #[.int .i64 s', .slice A' n' c']) (by simp [results, Tryd.results21, go_sem, hd0, hd1]) rfl ?_
  have hof := (hown4.below hb5).far2 (g := g) (by first | omega | (simp; omega)) (.int .i64 s') (.slice A' n' c')
  exact ⟨_, rfl, HR.out.bo (hof.mono (by have := hb3.size; first | omega | (simp; omega))), hb3.trans (hB6.mono (by omega))⟩

def GcdP (x y : Int) (w : World) (e : Ending) (w' : World) : Prop := ∃ r, e = .returned (.tuple #[r, .int .i64 0]) ∧ BO w' w.heap.size r (Int.gcd x y) ∧ Below w.heap.size w w'

set_option maxRecDepth 100000 in
set_option maxHeartbeats 1000000 in
theorem gcd_any (x y : Int) (vx vy : Value) (w : World) (hx : BV w w.heap.size vx x) (hy : BV w w.heap.size vy y) (hx6 : ab x < pw 60) (hy6 : ab y < pw 60) :
    Calls Tryd.prog 20 #[vx, vy] w (GcdP x y w) := by
  obtain ⟨A1, c1, rfl, hc1, hm1, hI1⟩ := hx
  obtain ⟨A2, c2, rfl, hc2, hm2, hI2⟩ := hy
  have hl1 := len60 hx6
  have hl2 := len60 hy6
  have hr1 := fun (w' : World) (hb : Below w.heap.size w w') => right_any (sgn x) (D (ab x)) A1 c1 w' ((hI1.below hb).more hb.size) (by omega) true (by simp [rightP_of hx6])
  have hr2 := fun (w' : World) (hb : Below w.heap.size w w') => right_any (sgn y) (D (ab y)) A2 c2 w' ((hI2.below hb).more hb.size) (by omega) true (by simp [rightP_of hy6])
  have hcm := fun (w' : World) (hb : Below w.heap.size w w') => common_any (ab x) (ab y) A1 A2 c1 c2 w' ((hI1.below hb).more hb.size) ((hI2.below hb).more hb.size) hc1 hc2 hm1 hm2 (ab_nonneg _) (ab_nonneg _) (by omega) (by omega)
  have hgg : Int.gcd (ab x) (ab y) = Int.gcd x y := by unfold Int.gcd ab; simp
  rw [hgg] at hcm
  obtain ⟨G, hG⟩ : ∃ G : Int, (Int.gcd x y : Int) = G := ⟨_, rfl⟩
  have hG0 : 0 ≤ G := by omega
  have haG : ab G = G := by unfold ab; omega
  rw [hG, ← haG] at hcm
  unfold GcdP
  rw [hG]
  have hnum := fun A c w' => number_any G 1 A c w' (fun h => (sgn_pos (by omega)).symm)
  have HNUM := Lib.hid hnum; clear hnum
  obtain ⟨n1, hn1⟩ : ∃ n, (D (ab x)).length = n := ⟨_, rfl⟩
  obtain ⟨n2, hn2⟩ : ∃ n, (D (ab y)).length = n := ⟨_, rfl⟩
  rw [hn1] at hr1 hcm ⊢
  rw [hn2] at hr2 hcm ⊢
  obtain ⟨s1, hs1e⟩ : ∃ s, sgn x = s := ⟨_, rfl⟩
  obtain ⟨sy, hs2e⟩ : ∃ s, sgn y = s := ⟨_, rfl⟩
  rw [hs1e] at hr1 ⊢
  rw [hs2e] at hr2 ⊢
  have HR1 := Lib.hid hr1; clear hr1
  have HR2 := Lib.hid hr2; clear hr2
  have HCM := Lib.hid hcm; clear hcm
  clear hn1 hn2 hs1e hs2e hI1 hI2 hx6 hy6 hc1 hc2 hgg hG haG hl1 hl2
  go_enter Tryd.func20, Tryd.ntmps20
  go_wp2_with fail
  obtain ⟨w1, hw1, hb1, k1, k2, k3, hsz⟩ := boxes3 w #[.int .i64 s1, .slice A1 n1 c1] #[.int .i64 sy, .slice A2 n2 c2] #[.int .i64 0, .slice none 0 0]
  rw [← hw1]
  clear hw1
  (with_reducible refine (HR1.out w1 hb1).mono ?_)
  rintro e w2 ⟨rfl, hb2⟩
  have k1 := k1.below hb2 k1.lt
  have k2 := k2.below hb2 k2.lt
  have k3 := k3.below hb2 k3.lt
  have hs2' := hb2.size
  have hb2 := hb1.trans (hb2.mono hb1.size)
  have j1 : w2.cell? ⟨w.heap.size + 1, 0, none⟩ = some (.int .i64 sy) := k2.cell 0
  have j2 : w2.cell? ⟨w.heap.size + 1, 1, none⟩ = some (.slice A2 n2 c2) := k2.cell 1
  go_wp2_with fail
  (with_reducible refine (HR2.out w2 hb2).mono ?_)
  rintro e w3 ⟨rfl, hb3⟩
  clear j1 j2
  have k1 := k1.below hb3 k1.lt
  have k2 := k2.below hb3 k2.lt
  have k3 := k3.below hb3 k3.lt
  have hs3' := hb3.size
  have hb3 := hb2.trans (hb3.mono hb2.size)
  clear hb1 hb2 HR1 HR2
  obtain ⟨g, hg⟩ : ∃ g, w.heap.size + 1 + 1 = g := ⟨_, rfl⟩
  have hgw : w.heap.size + 1 < g ∧ g < w3.heap.size := by have := k3.lt; omega
  rw [hg] at k3 ⊢
  clear hg hsz hs2' hs3'
  have j1 : w3.cell? ⟨w.heap.size, 1, none⟩ = some (.slice A1 n1 c1) := k1.cell 1
  have j3 : w3.cell? ⟨w.heap.size + 1, 1, none⟩ = some (.slice A2 n2 c2) := k2.cell 1
  go_wp2_with fail
  (with_reducible refine (HCM.out w3 hb3).mono ?_)
  rintro e w4 ⟨v4, rfl, hown4, hb4⟩
  obtain ⟨A4, c4, rfl, hc4, hm4, hI4⟩ := hown4.at_
  go_wp2_with fail
  (with_reducible refine (HNUM.out _ _ _).mono ?_)
  rintro e w5 ⟨r, rfl, hr, hb5⟩
  have HR := Lib.hid hr
  obtain ⟨s', A', n', c', rfl⟩ := hr.form
  clear hr
  have hB5 : Below w3.heap.size w3 w5 := hb4.trans (hb5.mono hb4.size)
  have hbk := k3.below hB5 (by omega)
  have q0 : w5.cell? ⟨g, 0, none⟩ = some (.int .i64 0) := hbk.cell 0
  have q1 : w5.cell? ⟨g, 1, none⟩ = some (.slice none 0 0) := hbk.cell 1
  have f0 := hbk.frozen 0
  have f1 := hbk.frozen 1
  have hB6 := ((hB5.mono (B' := g) (by omega)).setCell (p := ⟨g, 0, none⟩) (Nat.le_refl _) (.int .i64 s')).setCell (p := ⟨g, 1, none⟩) (Nat.le_refl _) (.slice A' n' c')
  have hbs := hbk.set2 (.int .i64 s') (.slice A' n' c')
  have hd0 := hbs.cell 0
  have hd1 := hbs.cell 1
  simp at hd0 hd1
  go_wp2_with fail
  refine bodyPost_ret (v := .tuple #[.agg #[.int .i64 s', .slice A' n' c'], .int .i64 0]) (by simp [results, Tryd.results20, go_sem, hd0, hd1]) rfl ?_
  have hof := (hown4.below hb5).far2 (g := g) (by first | omega | (simp; omega)) (.int .i64 s') (.slice A' n' c')
  exact ⟨_, rfl, HR.out.bo (hof.mono (by have := hb3.size; first | omega | (simp; omega))), hb3.trans (hB6.mono (by omega))⟩

end Go.Proofs.YtofndidngjglmaaDoor
