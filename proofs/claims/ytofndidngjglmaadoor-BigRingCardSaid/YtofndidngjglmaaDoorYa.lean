/- Plain: the quotient, rounded down, and its remainder. -/
import Derived.Test.YtofndidngjglmaaDoorU
namespace Go.Proofs.YtofndidngjglmaaDoor
open Go.RowKit

/-- What Div's results are. -/
def QR (x y q r : Int) : Prop := x = q * y + r ∧ (r = 0 ∨ sgn r = sgn y) ∧ ab r < ab y ∧ ab q ≤ ab x

theorem qr_pos {X Y Q R : Int} (h : Y * Q + R = X) (h0 : 0 ≤ R) (hX : 0 ≤ X) (h1 : R < Y) : 0 ≤ Q ∧ Q ≤ X ∧ (0 < R → Q + 1 ≤ X) := by
  have hQ : 0 ≤ Q := by
    rcases Int.lt_or_le Q 0 with h' | h'
    · have : Y * Q ≤ Y * (-1) := Int.mul_le_mul_of_nonneg_left (by omega) (by omega)
      omega
    · exact h'
  have hQX : 1 * Q ≤ Y * Q := Int.mul_le_mul_of_nonneg_right (by omega) hQ
  exact ⟨hQ, by omega, fun h => by omega⟩

theorem div_same {x y : Int} (hy : y ≠ 0) (h : sgn x = sgn y ∨ ab x % ab y = 0) :
    QR x y (sgn x * sgn y * (ab x / ab y)) (sgn y * (ab x % ab y)) ∧ ab (sgn x * sgn y * (ab x / ab y)) = ab x / ab y ∧ ab (sgn y * (ab x % ab y)) = ab x % ab y ∧
    (sgn x * sgn y * (ab x / ab y) ≠ 0 → sgn x * sgn y = sgn (sgn x * sgn y * (ab x / ab y))) ∧ (sgn y * (ab x % ab y) ≠ 0 → sgn y = sgn (sgn y * (ab x % ab y))) := by
  have hY : 0 < ab y := by unfold ab; omega
  have e1 := Int.mul_ediv_add_emod (ab x) (ab y)
  have e2 := Int.emod_nonneg (ab x) (b := ab y) (by omega)
  have e3 := Int.emod_lt_of_pos (ab x) hY
  obtain ⟨Q, hQ⟩ : ∃ Q, ab x / ab y = Q := ⟨_, rfl⟩
  obtain ⟨R, hR⟩ : ∃ R, ab x % ab y = R := ⟨_, rfl⟩
  rw [hQ, hR] at e1
  rw [hR] at e2 e3 h
  rw [hQ, hR]
  obtain ⟨p1, p2, p3⟩ := qr_pos e1 e2 (ab_nonneg x) e3
  clear hQ hR
  unfold QR
  rcases sgn_cases x with ⟨a1, a2, a3⟩ | ⟨a1, a2, a3⟩ | ⟨a1, a2, a3⟩ <;> rcases sgn_cases y with ⟨b1, b2, b3⟩ | ⟨b1, b2, b3⟩ | ⟨b1, b2, b3⟩ <;> (try (exact absurd b1 hy)) <;> (rw [a2, b2] at h; rw [a3, b3] at e1; rw [a3] at p2 p3; rw [b3] at e3)
  · rw [a2, b2, a3, b3]
    simp only [Int.reduceNeg, Int.neg_mul, Int.one_mul, Int.mul_neg, Int.neg_neg]
    have : -y * Q = -(Q * y) := by rw [Int.neg_mul, Int.mul_comm]
    refine ⟨⟨by omega, ?_, by unfold ab; omega, by unfold ab; omega⟩, by unfold ab; omega, by unfold ab; omega, fun _ => ?_, fun _ => ?_⟩
    · rcases Int.lt_or_le 0 R with h' | h'
      · exact .inr (sgn_of_neg (by omega))
      · exact .inl (by omega)
    · exact (sgn_pos (by omega)).symm
    · exact (sgn_of_neg (by omega)).symm
  · have : R = 0 := by omega
    subst this
    rw [a2, b2, a3, b3]
    simp only [Int.reduceNeg, Int.neg_mul, Int.one_mul, Int.mul_zero]
    have h9 : y * Q = Q * y := Int.mul_comm _ _
    refine ⟨⟨by omega, .inl trivial, by unfold ab; omega, by unfold ab; omega⟩, by unfold ab; omega, rfl, fun _ => ?_, fun h => absurd rfl h⟩
    exact (sgn_of_neg (by omega)).symm
  · subst a1
    have hQ0 : Q = 0 := by omega
    subst hQ0
    have hR0 : R = 0 := by simp at e1; exact e1
    subst hR0
    simp only [Int.mul_zero, Int.zero_mul]
    exact ⟨⟨rfl, .inl trivial, by unfold ab; omega, by unfold ab; omega⟩, rfl, rfl, fun h => absurd rfl h, fun h => absurd rfl h⟩
  · subst a1
    have hQ0 : Q = 0 := by omega
    subst hQ0
    have hR0 : R = 0 := by simp at e1; exact e1
    subst hR0
    simp only [Int.mul_zero, Int.zero_mul]
    exact ⟨⟨rfl, .inl trivial, by unfold ab; omega, by unfold ab; omega⟩, rfl, rfl, fun h => absurd rfl h, fun h => absurd rfl h⟩
  · have : R = 0 := by omega
    subst this
    rw [a2, b2, a3, b3]
    simp only [Int.reduceNeg, Int.neg_mul, Int.one_mul, Int.mul_zero]
    have h9 : -y * Q = -(Q * y) := by rw [Int.neg_mul, Int.mul_comm]
    refine ⟨⟨by omega, .inl trivial, by unfold ab; omega, by unfold ab; omega⟩, by unfold ab; omega, rfl, fun _ => ?_, fun h => absurd rfl h⟩
    exact (sgn_of_neg (by omega)).symm
  · rw [a2, b2, a3, b3]
    simp only [Int.one_mul]
    have h9 : y * Q = Q * y := Int.mul_comm _ _
    refine ⟨⟨by omega, ?_, by unfold ab; omega, by unfold ab; omega⟩, by unfold ab; omega, by unfold ab; omega, fun _ => ?_, fun _ => ?_⟩
    · rcases Int.lt_or_le 0 R with h' | h'
      · exact .inr (sgn_pos (by omega))
      · exact .inl (by omega)
    · exact (sgn_pos (by omega)).symm
    · exact (sgn_pos (by omega)).symm

theorem div_diff {x y : Int} (hy : y ≠ 0) (h : sgn x ≠ sgn y) (hr : 0 < ab x % ab y) :
    QR x y (-(ab x / ab y + 1)) (sgn y * (ab y - ab x % ab y)) ∧ ab (-(ab x / ab y + 1)) = ab x / ab y + 1 ∧ ab (sgn y * (ab y - ab x % ab y)) = ab y - ab x % ab y ∧
    sgn x * sgn y = sgn (-(ab x / ab y + 1)) ∧ sgn y = sgn (sgn y * (ab y - ab x % ab y)) := by
  have hY : 0 < ab y := by unfold ab; omega
  have e1 := Int.mul_ediv_add_emod (ab x) (ab y)
  have e3 := Int.emod_lt_of_pos (ab x) hY
  obtain ⟨Q, hQ⟩ : ∃ Q, ab x / ab y = Q := ⟨_, rfl⟩
  obtain ⟨R, hR⟩ : ∃ R, ab x % ab y = R := ⟨_, rfl⟩
  rw [hQ, hR] at e1
  rw [hR] at e3 hr
  rw [hQ, hR]
  obtain ⟨p1, p2, p3⟩ := qr_pos e1 (by omega) (ab_nonneg x) e3
  have p3 := p3 hr
  clear hQ hR
  unfold QR
  rcases sgn_cases x with ⟨a1, a2, a3⟩ | ⟨a1, a2, a3⟩ | ⟨a1, a2, a3⟩ <;> rcases sgn_cases y with ⟨b1, b2, b3⟩ | ⟨b1, b2, b3⟩ | ⟨b1, b2, b3⟩ <;> (try (exact absurd b1 hy)) <;> (rw [a2, b2] at h; rw [a3, b3] at e1; rw [a3] at p2 p3; rw [b3] at e3) <;> (try (exact absurd rfl h)) <;> (try (exfalso; omega))
  · rw [a2, b2, a3, b3]
    have h9 : -(Q + 1) * y = -(y * Q) - y := by rw [Int.neg_mul, Int.add_mul, Int.one_mul, Int.mul_comm]; omega
    refine ⟨⟨by omega, .inr (sgn_pos (by omega)), by unfold ab; omega, by unfold ab; omega⟩, by unfold ab; omega, by unfold ab; omega, (sgn_of_neg (by omega)).symm, (sgn_pos (by omega)).symm⟩
  · rw [a2, b2, a3, b3]
    have h9 : -(Q + 1) * y = -y * Q - y := by rw [Int.neg_mul, Int.neg_mul, Int.add_mul, Int.one_mul, Int.mul_comm]; omega
    refine ⟨⟨by omega, .inr (sgn_of_neg (by omega)), by unfold ab; omega, by unfold ab; omega⟩, by unfold ab; omega, by unfold ab; omega, (sgn_of_neg (by omega)).symm, (sgn_of_neg (by omega)).symm⟩

end Go.Proofs.YtofndidngjglmaaDoor
