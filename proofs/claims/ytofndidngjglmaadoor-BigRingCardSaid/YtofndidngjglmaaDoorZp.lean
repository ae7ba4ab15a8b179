/- What the law on the greatest common divisor says, in plain. -/
import Derived.Test.YtofndidngjglmaaDoorZo
namespace Go.Proofs.YtofndidngjglmaaDoor
open Go.RowKit

theorem sgn_eq_zero {z : Int} (h : sgn z = 0) : z = 0 := by
  unfold sgn at h
  split at h
  · omega
  · split at h
    · assumption
    · omega
theorem sgn_neg_iff {z : Int} (h : -1 = sgn z) : z < 0 := by
  unfold sgn at h
  split at h
  · assumption
  · split at h <;> omega
theorem sgn_nonneg_iff {z : Int} (h : sgn z ≠ -1) : 0 ≤ z := by
  unfold sgn at h
  split at h
  · exact absurd rfl h
  · omega
theorem BO.s0 {w : World} {B : Nat} {s : Int} {A : Option Addr} {n c : Nat} (h : BO w B (.agg #[.int .i64 s, .slice A n c]) 0) : s = 0 := by
  obtain ⟨v, e, _⟩ := h
  injection e with e
  have e0 := congrArg (fun (a : Array Value) => a[0]?) e
  simp at e0
  rw [e0]; rfl
theorem gcd_pos {x y : Int} (h : x ≠ 0 ∨ y ≠ 0) : 0 < ((Int.gcd x y : Nat) : Int) := by
  have : 0 < Int.gcd x y := Nat.pos_of_ne_zero (fun h0 => by
    obtain ⟨h1, h2⟩ := Int.gcd_eq_zero_iff.1 h0
    rcases h with h | h <;> contradiction)
  omega
theorem gcd_lt {x y : Int} {k : Nat} (hx : ab x < pw k) (hy : ab y < pw k) : ab ((Int.gcd x y : Nat) : Int) < pw k := by
  have h1 : ab ((Int.gcd x y : Nat) : Int) = ((Int.gcd x y : Nat) : Int) := by unfold ab; omega
  rw [h1]
  by_cases h : x = 0
  · subst h
    rw [Int.gcd_zero_left]
    exact hy
  · have := Nat.gcd_le_left y.natAbs (show 0 < x.natAbs by omega)
    unfold ab at hx
    have e : Int.gcd x y = Nat.gcd x.natAbs y.natAbs := rfl
    omega
theorem gcd_neg (x y : Int) : Int.gcd (-y) x = Int.gcd x y := by rw [Int.neg_gcd, Int.gcd_comm]
theorem qr_dvd {x d q r : Int} (h : QR x d q r) (hd : d ∣ x) : r = 0 := by
  obtain ⟨h1, _, h3, _⟩ := h
  have h4 : d ∣ r := by
    have : r = x - q * d := by omega
    rw [this]
    exact Int.dvd_sub hd (Int.dvd_mul_left q d)
  rcases Int.natAbs_eq_zero.1 (Nat.eq_zero_of_dvd_of_lt (Int.natAbs_dvd_natAbs.2 h4) (by unfold ab at h3; omega)) with h5
  exact h5
theorem gcd_rem {x y q r : Int} (h : QR y x q r) : Int.gcd x r = Int.gcd x y := by
  have h1 : y = r + q * x := by have := h.1; omega
  rw [h1, Int.gcd_add_mul_right_right]
theorem gcd_factor (x y z : Int) : ((Int.gcd (x * z) (y * z) : Nat) : Int) = ((Int.gcd x y : Nat) : Int) * ab z := by
  rw [Int.gcd_mul_right]
  unfold ab
  omega

end Go.Proofs.YtofndidngjglmaaDoor
