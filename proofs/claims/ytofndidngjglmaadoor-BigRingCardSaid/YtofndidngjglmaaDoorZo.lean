/- What the laws say, in plain. -/
import Derived.Test.YtofndidngjglmaaDoorZn
import Derived.Test.YtofndidngjglmaaDoorYb
namespace Go.Proofs.YtofndidngjglmaaDoor
open Go.RowKit

theorem cmp_cases (x y : Int) : (x < y ∧ Lib.compareInt x y = -1) ∨ (x = y ∧ Lib.compareInt x y = 0) ∨ (y < x ∧ Lib.compareInt x y = 1) := by
  unfold Lib.compareInt
  rcases Int.lt_trichotomy x y with h | h | h
  · exact .inl ⟨h, if_pos h⟩
  · exact .inr (.inl ⟨h, by rw [if_neg (by omega), if_neg (by omega)]⟩)
  · exact .inr (.inr ⟨h, by rw [if_neg (by omega), if_pos (by omega)]⟩)
theorem cmp_sub (x y : Int) : sgn (x - y) = Lib.compareInt x y := by
  rcases cmp_cases x y with ⟨h, e⟩ | ⟨h, e⟩ | ⟨h, e⟩ <;> rw [e] <;> unfold sgn
  · rw [if_pos (by omega)]
  · rw [if_neg (by omega), if_pos (by omega)]
  · rw [if_neg (by omega), if_neg (by omega)]
theorem cmp_neg (x y : Int) : Lib.compareInt y x = -Lib.compareInt x y := by
  rcases cmp_cases x y with ⟨h, e⟩ | ⟨h, e⟩ | ⟨h, e⟩ <;> rcases cmp_cases y x with ⟨h', e'⟩ | ⟨h', e'⟩ | ⟨h', e'⟩ <;> omega
theorem cmp_add (x y z : Int) : Lib.compareInt (x + z) (y + z) = Lib.compareInt x y := by
  rw [← cmp_sub, ← cmp_sub]
  congr 1
  omega
theorem cmp_mul (x y z : Int) : Lib.compareInt (x * z) (y * z) = Lib.compareInt x y * sgn z := by
  rw [← cmp_sub, ← cmp_sub, ← sgn_mul, Int.sub_mul]
theorem cmp_zero (x y : Int) : (Lib.compareInt x y == 0) = decide (x = y) := by
  rcases cmp_cases x y with ⟨h, e⟩ | ⟨h, e⟩ | ⟨h, e⟩ <;> rw [e]
  · rw [decide_eq_false (by omega)]; rfl
  · rw [decide_eq_true h]; rfl
  · rw [decide_eq_false (by omega)]; rfl
theorem cmp_bd (x y : Int) : -1 ≤ Lib.compareInt x y ∧ Lib.compareInt x y ≤ 1 := by
  rcases cmp_cases x y with ⟨h, e⟩ | ⟨h, e⟩ | ⟨h, e⟩ <;> omega
theorem cmp_gt {x y : Int} : 0 < Lib.compareInt x y ↔ y < x := by
  rcases cmp_cases x y with ⟨h, e⟩ | ⟨h, e⟩ | ⟨h, e⟩ <;> omega
theorem cmp_le {x y : Int} : Lib.compareInt x y ≤ 0 ↔ x ≤ y := by
  rcases cmp_cases x y with ⟨h, e⟩ | ⟨h, e⟩ | ⟨h, e⟩ <;> omega

theorem sgn_mul_bd {a b : Int} (ha : -1 ≤ a ∧ a ≤ 1) (hb : -1 ≤ b ∧ b ≤ 1) : -1 ≤ a * b ∧ a * b ≤ 1 := by
  have h : a = -1 ∨ a = 0 ∨ a = 1 := by omega
  rcases h with rfl | rfl | rfl <;> omega

/-- With one digit more. -/
theorem itoa_seven {x : Int} (hx : x ≠ 0) : Lib.itoa x ++ [55] = Lib.itoa (10 * x + 7 * sgn x) := by
  rw [itoa_ab, itoa_ab (10 * x + 7 * sgn x)]
  have hab : (ab (10 * x + 7 * sgn x)).toNat = 10 * (ab x).toNat + 7 := by
    rcases Int.lt_trichotomy x 0 with h | h | h
    · rw [sgn_of_neg h]; unfold ab; omega
    · omega
    · rw [sgn_pos h]; unfold ab; omega
  have hs : (10 * x + 7 * sgn x < 0) ↔ x < 0 := by
    rcases Int.lt_trichotomy x 0 with h | h | h
    · rw [sgn_of_neg h]; omega
    · omega
    · rw [sgn_pos h]; omega
  rw [hab, dd_ge (n := 10 * (ab x).toNat + 7) (by have : (ab x).toNat ≠ 0 := by { unfold ab; omega }; omega)]
  have h1 : (10 * (ab x).toNat + 7) / 10 = (ab x).toNat := by omega
  have h2 : (10 * (ab x).toNat + 7) % 10 = 7 := by omega
  rw [h1, h2, List.append_assoc]
  have h3 : (UInt8.ofNat (48 + 7)) = 55 := rfl
  rw [h3]
  by_cases h : x < 0
  · rw [if_pos h, if_pos (hs.2 h)]
  · rw [if_neg h, if_neg (fun h' => h (hs.1 h'))]
theorem seven_big {x : Int} (h : ¬ ab (10 * x) < pw 60) : ¬ ab (10 * x + 7 * sgn x) < pw 60 := by
  have : ab (10 * x) ≤ ab (10 * x + 7 * sgn x) := by
    rcases Int.lt_trichotomy x 0 with h | h | h
    · rw [sgn_of_neg h]; unfold ab; omega
    · subst h; rw [sgn_zero]; unfold ab; omega
    · rw [sgn_pos h]; unfold ab; omega
  omega

end Go.Proofs.YtofndidngjglmaaDoor
