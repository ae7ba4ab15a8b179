/- Walks: Neg, Gcd. Plain: the quotient, rounded down, and its remainder. Boxes of big integers; what the document's examples are, in plain. -/
import Derived.Test.YtkjpfnbdlbnbkaaGreatDoorXak

namespace Go.Proofs.YtkjpfnbdlbnbkaaGreatDoor
open Go.RowKit

set_option maxRecDepth 100000 in
set_option maxHeartbeats 1000000 in
theorem neg_any (x : Int) (vx : Value) (w : World) (hx : BV w w.heap.size vx x) (hx6 : ab x < pw 60) :
    Calls Tryz.prog 29 #[vx] w (OfP (-x) w) := by
  obtain ⟨A1, c1, rfl, hc1, hm1, hI1⟩ := hx
  have hl1 := len60 hx6
  have hr1 := fun (w' : World) (hb : Below w.heap.size w w') => right_any (sgn x) (D (ab x)) A1 c1 w' ((hI1.below hb).more hb.size) (by omega) true (by simp [rightP_of hx6])
  have hclo := fun (w' : World) (hb : Below w.heap.size w w') => clone_any (D (ab x)) A1 c1 w' ((hI1.below hb).more hb.size) (by omega)
  rw [← ab_neg x] at hclo
  have hnum := fun A c w' => number_any (-x) (-sgn x) A c w' (fun _ => (sgn_neg x).symm)
  have HNUM := Lib.hid hnum; clear hnum
  rw [ab_neg x] at hclo
  obtain ⟨l, hl⟩ : ∃ l, D (ab x) = l := ⟨_, rfl⟩
  have hlz : D (ab (-x)) = l := by rw [ab_neg, hl]
  have HLZ := Lib.hid hlz; clear hlz
  rw [hl] at hr1 hclo ⊢
  obtain ⟨n1, hn1⟩ : ∃ n, l.length = n := ⟨_, rfl⟩
  have HN1 := Lib.hid hn1
  rw [hn1] at hr1 hclo ⊢
  have hs1 := sgn_bd x
  obtain ⟨s1, hs1e⟩ : ∃ s, sgn x = s := ⟨_, rfl⟩
  rw [hs1e] at hr1 hs1 HNUM ⊢
  have HR1 := Lib.hid hr1; clear hr1
  have HCLO := Lib.hid hclo; clear hclo
  clear hn1 hs1e hI1 hx6 hc1 hl hl1
  go_enter Tryz.func29, Tryz.ntmps29
  go_wp2_with fail
  obtain ⟨w1, hw1, hb1, k1, k3, hsz⟩ := boxes2 w #[.int .i64 s1, .slice A1 n1 c1] #[.int .i64 0, .slice none 0 0]
  rw [← hw1]
  clear hw1
  (with_reducible refine (HR1.out w1 hb1).mono ?_)
  rintro e w3 ⟨rfl, hb2⟩
  have k1 := k1.below hb2 k1.lt
  have k3 := k3.below hb2 k3.lt
  have hs3' := hb2.size
  have hb3 := hb1.trans (hb2.mono hb1.size)
  clear hb1 hb2 HR1
  obtain ⟨g, hg⟩ : ∃ g, w.heap.size + 1 = g := ⟨_, rfl⟩
  have hgw : w.heap.size < g ∧ g < w3.heap.size := by have := k3.lt; omega
  rw [hg] at k3 ⊢
  clear hg hsz hs3'
  have e0 : ∀ W' : World, Below g w3 W' → W'.cell? ⟨w.heap.size, 0, none⟩ = some (.int .i64 s1) ∧ W'.cell? ⟨w.heap.size, 1, none⟩ = some (.slice A1 n1 c1) ∧ Below g w3 W' := fun W' hW =>
    ⟨(k1.below hW (by omega)).cell 0, (k1.below hW (by omega)).cell 1, hW⟩
  have E0 := Lib.hid e0; clear e0
  have hwm : IntKind.i64.wrap (-s1) = -s1 := IntWalk.i64_in _ (by omega)
  have hB00 : Below g w3 w3.drew := (Below.refl _ _).drew
  have hB01 : Below w3.heap.size w3 w3.drew := (Below.refl _ _).drew
  go_wp2_with fail
  go_region_held3 (fun W' => W'.cell? ⟨w.heap.size, 0, none⟩ = some (.int .i64 s1) ∧ W'.cell? ⟨w.heap.size, 1, none⟩ = some (.slice A1 n1 c1) ∧ Below g w3 W')
    (first | exact E0.out _ (by assumption) | exact E0.out _ ⟨rfl, rfl, rfl, Nat.le_refl _, fun _ _ => rfl⟩)
    (first
      | (go_at_call 89; refine (HCLO.out w3.drew ⟨hb3.os, hb3.tape, hb3.output, hb3.size, hb3.block⟩).mono ?_; rintro e w4 ⟨v4, rfl, hown4, hb4⟩; have hB4 : Below w3.heap.size w3 w4 := ⟨hb4.os, hb4.tape, hb4.output, hb4.size, hb4.block⟩; have hB4g : Below g w3 w4 := hB4.mono (by omega); rw [← HLZ.out] at hown4; obtain ⟨A4, c4, rfl, hc4, hm4, hI4⟩ := hown4.at_)
      | (go_at_call 72; refine (HNUM.out _ _ _).mono ?_; rintro e w5 ⟨r, rfl, hr, hb5⟩; have HR := Lib.hid hr; obtain ⟨s', A', n', c', rfl⟩ := hr.form; clear hr; have hB5 : Below w3.heap.size w3 w5 := hB4.trans (hb5.mono hB4.size); have hB5g : Below g w3 w5 := hB5.mono (by omega); have hbk := k3.below hB5 (by omega); have q0 : w5.cell? ⟨g, 0, none⟩ = some (.int .i64 0) := hbk.cell 0; have q1 : w5.cell? ⟨g, 1, none⟩ = some (.slice none 0 0) := hbk.cell 1; have f0 := hbk.frozen 0; have f1 := hbk.frozen 1; have hB6 := (hB5g.setCell (p := ⟨g, 0, none⟩) (Nat.le_refl _) (.int .i64 s')).setCell (p := ⟨g, 1, none⟩) (Nat.le_refl _) (.slice A' n' c')))
  have hbs := hbk.set2 (.int .i64 s') (.slice A' n' c')
  have hd0 := hbs.cell 0
  have hd1 := hbs.cell 1
  simp at hd0 hd1
  go_wp2_with fail
  refine bodyPost_ret (v := .agg #[.int .i64 s', .slice A' n' c']) (by simp [results, Tryz.results29, go_sem, hd0, hd1]) rfl ?_
  have hof := (hown4.below hb5).far2 (g := g) (by first | omega | (simp; omega)) (.int .i64 s') (.slice A' n' c')
  exact ⟨_, rfl, HR.out.bo (hof.mono (by have := hb3.size; first | omega | (simp; omega))), hb3.trans (hB6.mono (by omega))⟩

def GcdP (x y : Int) (w : World) (e : Ending) (w' : World) : Prop := ∃ r, e = .returned (.tuple #[r, .int .i64 0]) ∧ BO w' w.heap.size r (Int.gcd x y) ∧ Below w.heap.size w w'

set_option maxRecDepth 100000 in
set_option maxHeartbeats 1000000 in
theorem gcd_any (x y : Int) (vx vy : Value) (w : World) (hx : BV w w.heap.size vx x) (hy : BV w w.heap.size vy y) (hx6 : ab x < pw 60) (hy6 : ab y < pw 60) :
    Calls Tryz.prog 20 #[vx, vy] w (GcdP x y w) := by
  obtain ⟨A1, c1, rfl, hc1, hm1, hI1⟩ := hx
  obtain ⟨A2, c2, rfl, hc2, hm2, hI2⟩ := hy
  have hl1 := len60 hx6
  have hl2 := len60 hy6
  have hr1 := fun (w' : World) (hb : Below w.heap.size w w') => right_any (sgn x) (D (ab x)) A1 c1 w' ((hI1.below hb).more hb.size) (by omega) true (by simp [rightP_of hx6])
  have hr2 := fun (w' : World) (hb : Below w.heap.size w w') => right_any (sgn y) (D (ab y)) A2 c2 w' ((hI2.below hb).more hb.size) (by omega) true (by simp [rightP_of hy6])
  have hcm := fun (w' : World) (hb : Below w.heap.size w w') => common_any (ab x) (ab y) A1 A2 c1 c2 w' ((hI1.below hb).more hb.size) ((hI2.below hb).more hb.size) hc1 hc2 hm1 hm2 (ab_nonneg _) (ab_nonneg _) (by omega) (by omega)
  have hgg : Int.gcd (ab x) (ab y) = Int.gcd x y := by unfold Int.gcd ab; simp
  rw [hgg] at hcm
  obtain ⟨G, hG⟩ : ∃ G : Int, (Int.gcd x y : Int) = G := ⟨_, rfl⟩
  have hG0 : 0 ≤ G := by omega
  have haG : ab G = G := by unfold ab; omega
  rw [hG, ← haG] at hcm
  unfold GcdP
  rw [hG]
  have hnum := fun A c w' => number_any G 1 A c w' (fun h => (sgn_pos (by omega)).symm)
  have HNUM := Lib.hid hnum; clear hnum
  obtain ⟨n1, hn1⟩ : ∃ n, (D (ab x)).length = n := ⟨_, rfl⟩
  obtain ⟨n2, hn2⟩ : ∃ n, (D (ab y)).length = n := ⟨_, rfl⟩
  rw [hn1] at hr1 hcm ⊢
  rw [hn2] at hr2 hcm ⊢
  obtain ⟨s1, hs1e⟩ : ∃ s, sgn x = s := ⟨_, rfl⟩
  obtain ⟨sy, hs2e⟩ : ∃ s, sgn y = s := ⟨_, rfl⟩
  rw [hs1e] at hr1 ⊢
  rw [hs2e] at hr2 ⊢
  have HR1 := Lib.hid hr1; clear hr1
  have HR2 := Lib.hid hr2; clear hr2
  have HCM := Lib.hid hcm; clear hcm
  clear hn1 hn2 hs1e hs2e hI1 hI2 hx6 hy6 hc1 hc2 hgg hG haG hl1 hl2
  go_enter Tryz.func20, Tryz.ntmps20
  go_wp2_with fail
  obtain ⟨w1, hw1, hb1, k1, k2, k3, hsz⟩ := boxes3 w #[.int .i64 s1, .slice A1 n1 c1] #[.int .i64 sy, .slice A2 n2 c2] #[.int .i64 0, .slice none 0 0]
  rw [← hw1]
  clear hw1
  (with_reducible refine (HR1.out w1 hb1).mono ?_)
  rintro e w2 ⟨rfl, hb2⟩
  have k1 := k1.below hb2 k1.lt
  have k2 := k2.below hb2 k2.lt
  have k3 := k3.below hb2 k3.lt
  have hs2' := hb2.size
  have hb2 := hb1.trans (hb2.mono hb1.size)
  have j1 : w2.cell? ⟨w.heap.size + 1, 0, none⟩ = some (.int .i64 sy) := k2.cell 0
  have j2 : w2.cell? ⟨w.heap.size + 1, 1, none⟩ = some (.slice A2 n2 c2) := k2.cell 1
  go_wp2_with fail
  (with_reducible refine (HR2.out w2 hb2).mono ?_)
  rintro e w3 ⟨rfl, hb3⟩
  clear j1 j2
  have k1 := k1.below hb3 k1.lt
  have k2 := k2.below hb3 k2.lt
  have k3 := k3.below hb3 k3.lt
  have hs3' := hb3.size
  have hb3 := hb2.trans (hb3.mono hb2.size)
  clear hb1 hb2 HR1 HR2
  obtain ⟨g, hg⟩ : ∃ g, w.heap.size + 1 + 1 = g := ⟨_, rfl⟩
  have hgw : w.heap.size + 1 < g ∧ g < w3.heap.size := by have := k3.lt; omega
  rw [hg] at k3 ⊢
  clear hg hsz hs2' hs3'
  have j1 : w3.cell? ⟨w.heap.size, 1, none⟩ = some (.slice A1 n1 c1) := k1.cell 1
  have j3 : w3.cell? ⟨w.heap.size + 1, 1, none⟩ = some (.slice A2 n2 c2) := k2.cell 1
  go_wp2_with fail
  (with_reducible refine (HCM.out w3 hb3).mono ?_)
  rintro e w4 ⟨v4, rfl, hown4, hb4⟩
  obtain ⟨A4, c4, rfl, hc4, hm4, hI4⟩ := hown4.at_
  go_wp2_with fail
  (with_reducible refine (HNUM.out _ _ _).mono ?_)
  rintro e w5 ⟨r, rfl, hr, hb5⟩
  have HR := Lib.hid hr
  obtain ⟨s', A', n', c', rfl⟩ := hr.form
  clear hr
  have hB5 : Below w3.heap.size w3 w5 := hb4.trans (hb5.mono hb4.size)
  have hbk := k3.below hB5 (by omega)
  have q0 : w5.cell? ⟨g, 0, none⟩ = some (.int .i64 0) := hbk.cell 0
  have q1 : w5.cell? ⟨g, 1, none⟩ = some (.slice none 0 0) := hbk.cell 1
  have f0 := hbk.frozen 0
  have f1 := hbk.frozen 1
  have hB6 := ((hB5.mono (B' := g) (by omega)).setCell (p := ⟨g, 0, none⟩) (Nat.le_refl _) (.int .i64 s')).setCell (p := ⟨g, 1, none⟩) (Nat.le_refl _) (.slice A' n' c')
  have hbs := hbk.set2 (.int .i64 s') (.slice A' n' c')
  have hd0 := hbs.cell 0
  have hd1 := hbs.cell 1
  simp at hd0 hd1
  go_wp2_with fail
  refine bodyPost_ret (v := .tuple #[.agg #[.int .i64 s', .slice A' n' c'], .int .i64 0]) (by simp [results, Tryz.results20, go_sem, hd0, hd1]) rfl ?_
  have hof := (hown4.below hb5).far2 (g := g) (by first | omega | (simp; omega)) (.int .i64 s') (.slice A' n' c')
  exact ⟨_, rfl, HR.out.bo (hof.mono (by have := hb3.size; first | omega | (simp; omega))), hb3.trans (hB6.mono (by omega))⟩

end Go.Proofs.YtkjpfnbdlbnbkaaGreatDoor

namespace Go.Proofs.YtkjpfnbdlbnbkaaGreatDoor
open Go.RowKit

/-- What Div's results are. -/
def QR (x y q r : Int) : Prop := x = q * y + r ∧ (r = 0 ∨ sgn r = sgn y) ∧ ab r < ab y ∧ ab q ≤ ab x

theorem qr_pos {X Y Q R : Int} (h : Y * Q + R = X) (h0 : 0 ≤ R) (hX : 0 ≤ X) (h1 : R < Y) : 0 ≤ Q ∧ Q ≤ X ∧ (0 < R → Q + 1 ≤ X) := by
  have hQ : 0 ≤ Q := by
    rcases Int.lt_or_le Q 0 with h' | h'
    · have : Y * Q ≤ Y * (-1) := Int.mul_le_mul_of_nonneg_left (by omega) (by omega)
      omega
    · exact h'
  have hQX : 1 * Q ≤ Y * Q := Int.mul_le_mul_of_nonneg_right (by omega) hQ
  exact ⟨hQ, by omega, fun h => by omega⟩

theorem div_same {x y : Int} (hy : y ≠ 0) (h : sgn x = sgn y ∨ ab x % ab y = 0) :
    QR x y (sgn x * sgn y * (ab x / ab y)) (sgn y * (ab x % ab y)) ∧ ab (sgn x * sgn y * (ab x / ab y)) = ab x / ab y ∧ ab (sgn y * (ab x % ab y)) = ab x % ab y ∧
    (sgn x * sgn y * (ab x / ab y) ≠ 0 → sgn x * sgn y = sgn (sgn x * sgn y * (ab x / ab y))) ∧ (sgn y * (ab x % ab y) ≠ 0 → sgn y = sgn (sgn y * (ab x % ab y))) := by
  have hY : 0 < ab y := by unfold ab; omega
  have e1 := Int.mul_ediv_add_emod (ab x) (ab y)
  have e2 := Int.emod_nonneg (ab x) (b := ab y) (by omega)
  have e3 := Int.emod_lt_of_pos (ab x) hY
  obtain ⟨Q, hQ⟩ : ∃ Q, ab x / ab y = Q := ⟨_, rfl⟩
  obtain ⟨R, hR⟩ : ∃ R, ab x % ab y = R := ⟨_, rfl⟩
  rw [hQ, hR] at e1
  rw [hR] at e2 e3 h
  rw [hQ, hR]
  obtain ⟨p1, p2, p3⟩ := qr_pos e1 e2 (ab_nonneg x) e3
  clear hQ hR
  unfold QR
  rcases sgn_cases x with ⟨a1, a2, a3⟩ | ⟨a1, a2, a3⟩ | ⟨a1, a2, a3⟩ <;> rcases sgn_cases y with ⟨b1, b2, b3⟩ | ⟨b1, b2, b3⟩ | ⟨b1, b2, b3⟩ <;> (try (exact absurd b1 hy)) <;> (rw [a2, b2] at h; rw [a3, b3] at e1; rw [a3] at p2 p3; rw [b3] at e3)
  · rw [a2, b2, a3, b3]
    simp only [Int.reduceNeg, Int.neg_mul, Int.one_mul, Int.mul_neg, Int.neg_neg]
    have : -y * Q = -(Q * y) := by rw [Int.neg_mul, Int.mul_comm]
    refine ⟨⟨by omega, ?_, by unfold ab; omega, by unfold ab; omega⟩, by unfold ab; omega, by unfold ab; omega, fun _ => ?_, fun _ => ?_⟩
    · rcases Int.lt_or_le 0 R with h' | h'
      · exact .inr (sgn_of_neg (by omega))
      · exact .inl (by omega)
    · exact (sgn_pos (by omega)).symm
    · exact (sgn_of_neg (by omega)).symm
  · have : R = 0 := by omega
    subst this
    rw [a2, b2, a3, b3]
    simp only [Int.reduceNeg, Int.neg_mul, Int.one_mul, Int.mul_zero]
    have h9 : y * Q = Q * y := Int.mul_comm _ _
    refine ⟨⟨by omega, .inl trivial, by unfold ab; omega, by unfold ab; omega⟩, by unfold ab; omega, rfl, fun _ => ?_, fun h => absurd rfl h⟩
    exact (sgn_of_neg (by omega)).symm
  · subst a1
    have hQ0 : Q = 0 := by omega
    subst hQ0
    have hR0 : R = 0 := by simp at e1; exact e1
    subst hR0
    simp only [Int.mul_zero, Int.zero_mul]
    exact ⟨⟨rfl, .inl trivial, by unfold ab; omega, by unfold ab; omega⟩, rfl, rfl, fun h => absurd rfl h, fun h => absurd rfl h⟩
  · subst a1
    have hQ0 : Q = 0 := by omega
    subst hQ0
    have hR0 : R = 0 := by simp at e1; exact e1
    subst hR0
    simp only [Int.mul_zero, Int.zero_mul]
    exact ⟨⟨rfl, .inl trivial, by unfold ab; omega, by unfold ab; omega⟩, rfl, rfl, fun h => absurd rfl h, fun h => absurd rfl h⟩
  · have : R = 0 := by omega
    subst this
    rw [a2, b2, a3, b3]
    simp only [Int.reduceNeg, Int.neg_mul, Int.one_mul, Int.mul_zero]
    have h9 : -y * Q = -(Q * y) := by rw [Int.neg_mul, Int.mul_comm]
    refine ⟨⟨by omega, .inl trivial, by unfold ab; omega, by unfold ab; omega⟩, by unfold ab; omega, rfl, fun _ => ?_, fun h => absurd rfl h⟩
    exact (sgn_of_neg (by omega)).symm
  · rw [a2, b2, a3, b3]
    simp only [Int.one_mul]
    have h9 : y * Q = Q * y := Int.mul_comm _ _
    refine ⟨⟨by omega, ?_, by unfold ab; omega, by unfold ab; omega⟩, by unfold ab; omega, by unfold ab; omega, fun _ => ?_, fun _ => ?_⟩
    · rcases Int.lt_or_le 0 R with h' | h'
      · exact .inr (sgn_pos (by omega))
      · exact .inl (by omega)
    · exact (sgn_pos (by omega)).symm
    · exact (sgn_pos (by omega)).symm

theorem div_diff {x y : Int} (hy : y ≠ 0) (h : sgn x ≠ sgn y) (hr : 0 < ab x % ab y) :
    QR x y (-(ab x / ab y + 1)) (sgn y * (ab y - ab x % ab y)) ∧ ab (-(ab x / ab y + 1)) = ab x / ab y + 1 ∧ ab (sgn y * (ab y - ab x % ab y)) = ab y - ab x % ab y ∧
    sgn x * sgn y = sgn (-(ab x / ab y + 1)) ∧ sgn y = sgn (sgn y * (ab y - ab x % ab y)) := by
  have hY : 0 < ab y := by unfold ab; omega
  have e1 := Int.mul_ediv_add_emod (ab x) (ab y)
  have e3 := Int.emod_lt_of_pos (ab x) hY
  obtain ⟨Q, hQ⟩ : ∃ Q, ab x / ab y = Q := ⟨_, rfl⟩
  obtain ⟨R, hR⟩ : ∃ R, ab x % ab y = R := ⟨_, rfl⟩
  rw [hQ, hR] at e1
  rw [hR] at e3 hr
  rw [hQ, hR]
  obtain ⟨p1, p2, p3⟩ := qr_pos e1 (by omega) (ab_nonneg x) e3
  have p3 := p3 hr
  clear hQ hR
  unfold QR
  rcases sgn_cases x with ⟨a1, a2, a3⟩ | ⟨a1, a2, a3⟩ | ⟨a1, a2, a3⟩ <;> rcases sgn_cases y with ⟨b1, b2, b3⟩ | ⟨b1, b2, b3⟩ | ⟨b1, b2, b3⟩ <;> (try (exact absurd b1 hy)) <;> (rw [a2, b2] at h; rw [a3, b3] at e1; rw [a3] at p2 p3; rw [b3] at e3) <;> (try (exact absurd rfl h)) <;> (try (exfalso; omega))
  · rw [a2, b2, a3, b3]
    have h9 : -(Q + 1) * y = -(y * Q) - y := by rw [Int.neg_mul, Int.add_mul, Int.one_mul, Int.mul_comm]; omega
    refine ⟨⟨by omega, .inr (sgn_pos (by omega)), by unfold ab; omega, by unfold ab; omega⟩, by unfold ab; omega, by unfold ab; omega, (sgn_of_neg (by omega)).symm, (sgn_pos (by omega)).symm⟩
  · rw [a2, b2, a3, b3]
    have h9 : -(Q + 1) * y = -y * Q - y := by rw [Int.neg_mul, Int.neg_mul, Int.add_mul, Int.one_mul, Int.mul_comm]; omega
    refine ⟨⟨by omega, .inr (sgn_of_neg (by omega)), by unfold ab; omega, by unfold ab; omega⟩, by unfold ab; omega, by unfold ab; omega, (sgn_of_neg (by omega)).symm, (sgn_of_neg (by omega)).symm⟩

end Go.Proofs.YtkjpfnbdlbnbkaaGreatDoor

namespace Go.Proofs.YtkjpfnbdlbnbkaaGreatDoor
open Go.RowKit

/-- A box at block g that holds z. -/
structure Bx (W : World) (g : Nat) (s : Int) (A : Option Addr) (n c : Nat) (z : Int) : Prop where
  blk : Blk W g 24 #[.int .i64 s, .slice A n c]
  bv : BV W W.heap.size (.agg #[.int .i64 s, .slice A n c]) z
section
variable {W W' w : World} {g B : Nat} {s s' : Int} {A A' : Option Addr} {n c n' c' : Nat} {z z' : Int}
theorem Bx.below (h : Bx W g s A n c z) (hb : Below W.heap.size W W') : Bx W' g s A n c z := ⟨h.blk.below hb h.blk.lt, h.bv.later hb⟩
theorem Bx.c0 (h : Bx W g s A n c z) : W.cell? ⟨g, 0, none⟩ = some (.int .i64 s) := h.blk.cell 0
theorem Bx.c1 (h : Bx W g s A n c z) : W.cell? ⟨g, 1, none⟩ = some (.slice A n c) := h.blk.cell 1
theorem Bx.sg (h : Bx W g s A n c z) : s = sgn z := by
  obtain ⟨A1, c1, e, _⟩ := h.bv
  injection e with e
  have e0 := congrArg (fun (a : Array Value) => a[0]?) e
  simp at e0
  exact e0
theorem box1 (h : BO w B (.agg #[.int .i64 s, .slice A n c]) z) : ∃ W, W = w.alloc (.cells #[.int .i64 s, .slice A n c] 24) ∧ Below w.heap.size w W ∧ Bx W w.heap.size s A n c z := by
  have hb : Below w.heap.size w (w.alloc (.cells #[.int .i64 s, .slice A n c] 24)) := (Below.refl _ _).alloc (Nat.le_refl _) _
  exact ⟨_, rfl, hb, Blk.new _ _ _, h.bv.later hb⟩
theorem box2 (h : BO w B (.agg #[.int .i64 s, .slice A n c]) z) (h' : BO w B (.agg #[.int .i64 s', .slice A' n' c']) z') :
    ∃ W, W = (w.alloc (.cells #[.int .i64 s, .slice A n c] 24)).alloc (.cells #[.int .i64 s', .slice A' n' c'] 24) ∧ Below w.heap.size w W ∧ Bx W w.heap.size s A n c z ∧ Bx W (w.heap.size + 1) s' A' n' c' z' := by
  obtain ⟨W, hW, hb, k1, k2, _⟩ := boxes2 w #[.int .i64 s, .slice A n c] #[.int .i64 s', .slice A' n' c']
  exact ⟨W, hW, hb, ⟨k1, h.bv.later hb⟩, ⟨k2, h'.bv.later hb⟩⟩
end

theorem lt60 {z : Int} (h : ab z < 1208925819614629174706176) : ab z < pw 60 := by
  have := pw_le (show 4 ≤ 60 by omega)
  rw [pw4] at this
  omega

/-- A literal of one block of cells. -/
theorem lit_bv {w : World} {l : List Int} {z : Int} {n : Nat} (h0 : 0 < z) (hD : D z = l) (hn : l.length = n) (hc : n ≤ 9223372036854775807) :
    BV (w.alloc (.cells (l.map (Value.int .i64)).toArray 3)) (w.alloc (.cells (l.map (Value.int .i64)).toArray 3)).heap.size (.agg #[.int .i64 1, .slice (some ⟨w.heap.size, 0, none⟩) n n]) z := by
  have hab : ab z = z := by unfold ab; omega
  have hs : sgn z = 1 := by unfold sgn; split <;> (try split) <;> omega
  subst hn
  refine ⟨some ⟨w.heap.size, 0, none⟩, l.length, by rw [hs, hab, hD], by rw [hab, hD]; exact Nat.le_refl _, hc, ?_⟩
  rw [hab, hD]
  intro k hk
  refine ⟨w.heap.size, 0, rfl, by simp, ?_⟩
  rw [Nat.zero_add]
  have := (Blk.new w 3 (l.map (Value.int .i64)).toArray).cell k
  rw [this]
  simp [hk]

theorem D_two : D 9223372036854775808 = [0, 0, 0, 8] := Nrm.eq_D (l := [0, 0, 0, 8]) ⟨by intro d hd; simp at hd; omega, by intro _; decide⟩
theorem D_x : D 1048577 = [1, 1] := Nrm.eq_D (l := [1, 1]) ⟨by intro d hd; simp at hd; omega, by intro _; decide⟩

theorem qr1 {q r : Int} (h : QR (-7) 2 q r) : q = -4 ∧ r = 1 := by
  obtain ⟨h1, h2, h3, _⟩ := h
  unfold sgn at h2
  unfold ab at h3
  split at h2 <;> (try split at h2) <;> omega
theorem qr2 {q r : Int} (h : QR 7 (-2) q r) : q = -4 ∧ r = -1 := by
  obtain ⟨h1, h2, h3, _⟩ := h
  unfold sgn at h2
  unfold ab at h3
  split at h2 <;> (try split at h2) <;> omega
theorem qr3 {q r : Int} (h : QR (-7) (-2) q r) : q = 3 ∧ r = -1 := by
  obtain ⟨h1, h2, h3, _⟩ := h
  unfold sgn at h2
  unfold ab at h3
  split at h2 <;> (try split at h2) <;> omega

theorem no007 (z : Int) : bts ⟨#[48, 48, 55]⟩ ≠ Lib.itoa z := by
  intro h
  have h1 : bts ⟨#[48, 48, 55]⟩ = [48, 48, 55] := rfl
  rw [h1, itoa_ab] at h
  split at h
  · cases h
  · rw [List.nil_append] at h
    rcases dd_head (ab z).toNat with h2 | h2
    · rw [h2] at h; cases h
    · rw [← h] at h2; exact h2 rfl
theorem noM0 (z : Int) : bts ⟨#[45, 48]⟩ ≠ Lib.itoa z := by
  intro h
  have h1 : bts ⟨#[45, 48]⟩ = [45, 48] := rfl
  rw [h1, itoa_ab] at h
  split at h
  · rename_i hz
    have h3 : [48] = Lib.decDigits (ab z).toNat := by simpa using h
    have h2 := dv_dd (ab z).toNat
    rw [← h3] at h2
    have : dv [48] = 0 := rfl
    unfold ab at h2
    omega
  · rw [List.nil_append] at h
    have := dd_all (ab z).toNat 45 (by rw [← h]; simp)
    unfold isD at this
    have e : (45 : UInt8).toNat = 45 := rfl
    omega
theorem noE (z : Int) : bts ⟨#[]⟩ ≠ Lib.itoa z := by
  intro h
  have h1 : bts ⟨#[]⟩ = [] := rfl
  rw [h1, itoa_ab] at h
  split at h
  · cases h
  · exact dd_ne _ h.symm

theorem theText : byt (Lib.itoa (-9999999999800000000001)) = ⟨#[45, 57, 57, 57, 57, 57, 57, 57, 57, 57, 57, 56, 48, 48, 48, 48, 48, 48, 48, 48, 48, 48, 49]⟩ := by
  have h := dd_of (l := [57, 57, 57, 57, 57, 57, 57, 57, 57, 57, 56, 48, 48, 48, 48, 48, 48, 48, 48, 48, 48, 49]) (by intro b hb; simp at hb; unfold isD; rcases hb with rfl | rfl | rfl | rfl <;> decide) (by simp) (.inr (by decide))
  have h2 : dv [57, 57, 57, 57, 57, 57, 57, 57, 57, 57, 56, 48, 48, 48, 48, 48, 48, 48, 48, 48, 48, 49] = 9999999999800000000001 := by rfl
  rw [h2] at h
  unfold Lib.itoa
  rw [if_pos (by omega)]
  have h3 : Int.natAbs (-9999999999800000000001) = 9999999999800000000001 := rfl
  rw [h3, h]
  rfl

end Go.Proofs.YtkjpfnbdlbnbkaaGreatDoor
