/- Walks: Div by zero. What the laws say, in plain. What the law on the greatest common divisor says, in plain. -/
import Derived.Test.YtkjpfnbdlbnbkaaGreatDoorXam
import Derived.Test.YtkjpfnbdlbnbkaaGreatDoorXan

namespace Go.Proofs.YtkjpfnbdlbnbkaaGreatDoor
open Go.RowKit

set_option maxRecDepth 100000 in
set_option maxHeartbeats 4000000 in
theorem div_zero (x : Int) (vx vy : Value) (w : World) (hx : BV w w.heap.size vx x) (hy : BV w w.heap.size vy 0) (hx6 : ab x < pw 60) :
    Calls Tryz.prog 14 #[vx, vy] w fun e w' => e = .returned (.tuple #[.agg #[.int .i64 0, .slice none 0 0], .agg #[.int .i64 0, .slice none 0 0], .int .i64 15]) ∧ Below w.heap.size w w' := by
  obtain ⟨A1, c1, rfl, hc1, hm1, hI1⟩ := hx
  obtain ⟨A2, c2, rfl, hc2, hm2, hI2⟩ := hy
  have hl1 := len60 hx6
  have h0 : ab (0 : Int) < pw 60 := by rw [ab_zero]; exact pw_pos 60
  have hl2 := len60 h0
  have hr1 := fun (w' : World) (hb : Below w.heap.size w w') => right_any (sgn x) (D (ab x)) A1 c1 w' ((hI1.below hb).more hb.size) (by omega) true (by simp [rightP_of hx6])
  have hr2 := fun (w' : World) (hb : Below w.heap.size w w') => right_any (sgn 0) (D (ab 0)) A2 c2 w' ((hI2.below hb).more hb.size) (by omega) true (by simp [rightP_of h0])
  rw [sgn_zero] at hr2 ⊢
  obtain ⟨n1, hn1⟩ : ∃ n, (D (ab x)).length = n := ⟨_, rfl⟩
  obtain ⟨n2, hn2⟩ : ∃ n, (D (ab (0 : Int))).length = n := ⟨_, rfl⟩
  obtain ⟨s1, hs1e⟩ : ∃ s, sgn x = s := ⟨_, rfl⟩
  rw [hs1e, hn1] at hr1 ⊢
  rw [hn2] at hr2 ⊢
  have HR1 := Lib.hid hr1; clear hr1
  have HR2 := Lib.hid hr2; clear hr2
  clear hn1 hn2 hs1e hI1 hI2 hx6 hc1 hc2 hl1 hl2 h0 hm1 hm2
  go_enter Tryz.func14, Tryz.ntmps14
  go_wp2_with fail
  obtain ⟨w1, hw1, hb1, k1, k2, k3, k4, hsz⟩ := boxes4 w #[.int .i64 s1, .slice A1 n1 c1] #[.int .i64 0, .slice A2 n2 c2] #[.int .i64 0, .slice none 0 0] #[.int .i64 0, .slice none 0 0]
  rw [← hw1]
  clear hw1
  (with_reducible refine (HR1.out w1 hb1).mono ?_)
  rintro e w2 ⟨rfl, hb2⟩
  have k2 := k2.below hb2 k2.lt
  have k3 := k3.below hb2 k3.lt
  have k4 := k4.below hb2 k4.lt
  have hb2 := hb1.trans (hb2.mono hb1.size)
  have j1 : w2.cell? ⟨w.heap.size + 1, 0, none⟩ = some (.int .i64 0) := k2.cell 0
  have j2 : w2.cell? ⟨w.heap.size + 1, 1, none⟩ = some (.slice A2 n2 c2) := k2.cell 1
  go_wp2_with fail
  (with_reducible refine (HR2.out w2 hb2).mono ?_)
  rintro e w3 ⟨rfl, hb3⟩
  clear j1 j2
  have k2 := k2.below hb3 k2.lt
  have k3 := k3.below hb3 k3.lt
  have k4 := k4.below hb3 k4.lt
  have hb3 := hb2.trans (hb3.mono hb2.size)
  clear hb1 hb2 HR1 HR2 hsz
  have j0 : w3.cell? ⟨w.heap.size + 1, 0, none⟩ = some (.int .i64 0) := k2.cell 0
  obtain ⟨g, hg⟩ : ∃ g, w.heap.size + 1 + 1 = g := ⟨_, rfl⟩
  have hgw : w.heap.size ≤ g := by omega
  rw [hg] at k3 k4 ⊢
  clear hg
  have c30 : w3.cell? ⟨g, 0, none⟩ = some (.int .i64 0) := k3.cell 0
  have c31 : w3.cell? ⟨g, 1, none⟩ = some (.slice none 0 0) := k3.cell 1
  have c40 : w3.cell? ⟨g + 1, 0, none⟩ = some (.int .i64 0) := k4.cell 0
  have c41 : w3.cell? ⟨g + 1, 1, none⟩ = some (.slice none 0 0) := k4.cell 1
  have f30 := k3.frozen 0
  have f31 := k3.frozen 1
  have f40 := k4.frozen 0
  have f41 := k4.frozen 1
  have hbs := k3.set2 (.int .i64 0) (.slice none 0 0)
  have hbs' := (hbs.far (p := ⟨g + 1, 0, none⟩) (by simp) (.int .i64 0)).far (p := ⟨g + 1, 1, none⟩) (by simp) (.slice none 0 0)
  have hbt := ((k4.far (p := ⟨g, 0, none⟩) (by simp) (.int .i64 0)).far (p := ⟨g, 1, none⟩) (by simp) (.slice none 0 0)).set2 (.int .i64 0) (.slice none 0 0)
  have d0 := hbs'.cell 0
  have d1 := hbs'.cell 1
  have d2 := hbt.cell 0
  have d3 := hbt.cell 1
  simp at d0 d1 d2 d3
  have hb4 := (((hb3.setCell (p := ⟨g, 0, none⟩) hgw (.int .i64 0)).setCell (p := ⟨g, 1, none⟩) hgw (.slice none 0 0)).setCell (p := ⟨g + 1, 0, none⟩) (by show w.heap.size ≤ g + 1; omega) (.int .i64 0)).setCell (p := ⟨g + 1, 1, none⟩) (by show w.heap.size ≤ g + 1; omega) (.slice none 0 0)
  go_wp2_with fail
  refine bodyPost_ret (v := .tuple #[.agg #[.int .i64 0, .slice none 0 0], .agg #[.int .i64 0, .slice none 0 0], .int .i64 15]) (by simp [results, Tryz.results14, go_sem, d0, d1, d2, d3]) rfl ?_
  exact ⟨rfl, hb4⟩

end Go.Proofs.YtkjpfnbdlbnbkaaGreatDoor

namespace Go.Proofs.YtkjpfnbdlbnbkaaGreatDoor
open Go.RowKit

theorem cmp_cases (x y : Int) : (x < y ∧ Lib.compareInt x y = -1) ∨ (x = y ∧ Lib.compareInt x y = 0) ∨ (y < x ∧ Lib.compareInt x y = 1) := by
  unfold Lib.compareInt
  rcases Int.lt_trichotomy x y with h | h | h
  · exact .inl ⟨h, if_pos h⟩
  · exact .inr (.inl ⟨h, by rw [if_neg (by omega), if_neg (by omega)]⟩)
  · exact .inr (.inr ⟨h, by rw [if_neg (by omega), if_pos (by omega)]⟩)
theorem cmp_sub (x y : Int) : sgn (x - y) = Lib.compareInt x y := by
  rcases cmp_cases x y with ⟨h, e⟩ | ⟨h, e⟩ | ⟨h, e⟩ <;> rw [e] <;> unfold sgn
  · rw [if_pos (by omega)]
  · rw [if_neg (by omega), if_pos (by omega)]
  · rw [if_neg (by omega), if_neg (by omega)]
theorem cmp_neg (x y : Int) : Lib.compareInt y x = -Lib.compareInt x y := by
  rcases cmp_cases x y with ⟨h, e⟩ | ⟨h, e⟩ | ⟨h, e⟩ <;> rcases cmp_cases y x with ⟨h', e'⟩ | ⟨h', e'⟩ | ⟨h', e'⟩ <;> omega
theorem cmp_add (x y z : Int) : Lib.compareInt (x + z) (y + z) = Lib.compareInt x y := by
  rw [← cmp_sub, ← cmp_sub]
  congr 1
  omega
theorem cmp_mul (x y z : Int) : Lib.compareInt (x * z) (y * z) = Lib.compareInt x y * sgn z := by
  rw [← cmp_sub, ← cmp_sub, ← sgn_mul, Int.sub_mul]
theorem cmp_zero (x y : Int) : (Lib.compareInt x y == 0) = decide (x = y) := by
  rcases cmp_cases x y with ⟨h, e⟩ | ⟨h, e⟩ | ⟨h, e⟩ <;> rw [e]
  · rw [decide_eq_false (by omega)]; rfl
  · rw [decide_eq_true h]; rfl
  · rw [decide_eq_false (by omega)]; rfl
theorem cmp_bd (x y : Int) : -1 ≤ Lib.compareInt x y ∧ Lib.compareInt x y ≤ 1 := by
  rcases cmp_cases x y with ⟨h, e⟩ | ⟨h, e⟩ | ⟨h, e⟩ <;> omega
theorem cmp_gt {x y : Int} : 0 < Lib.compareInt x y ↔ y < x := by
  rcases cmp_cases x y with ⟨h, e⟩ | ⟨h, e⟩ | ⟨h, e⟩ <;> omega
theorem cmp_le {x y : Int} : Lib.compareInt x y ≤ 0 ↔ x ≤ y := by
  rcases cmp_cases x y with ⟨h, e⟩ | ⟨h, e⟩ | ⟨h, e⟩ <;> omega

theorem sgn_mul_bd {a b : Int} (ha : -1 ≤ a ∧ a ≤ 1) (hb : -1 ≤ b ∧ b ≤ 1) : -1 ≤ a * b ∧ a * b ≤ 1 := by
  have h : a = -1 ∨ a = 0 ∨ a = 1 := by omega
  rcases h with rfl | rfl | rfl <;> omega

/-- With one digit more. -/
theorem itoa_seven {x : Int} (hx : x ≠ 0) : Lib.itoa x ++ [55] = Lib.itoa (10 * x + 7 * sgn x) := by
  rw [itoa_ab, itoa_ab (10 * x + 7 * sgn x)]
  have hab : (ab (10 * x + 7 * sgn x)).toNat = 10 * (ab x).toNat + 7 := by
    rcases Int.lt_trichotomy x 0 with h | h | h
    · rw [sgn_of_neg h]; unfold ab; omega
    · omega
    · rw [sgn_pos h]; unfold ab; omega
  have hs : (10 * x + 7 * sgn x < 0) ↔ x < 0 := by
    rcases Int.lt_trichotomy x 0 with h | h | h
    · rw [sgn_of_neg h]; omega
    · omega
    · rw [sgn_pos h]; omega
  rw [hab, dd_ge (n := 10 * (ab x).toNat + 7) (by have : (ab x).toNat ≠ 0 := by { unfold ab; omega }; omega)]
  have h1 : (10 * (ab x).toNat + 7) / 10 = (ab x).toNat := by omega
  have h2 : (10 * (ab x).toNat + 7) % 10 = 7 := by omega
  rw [h1, h2, List.append_assoc]
  have h3 : (UInt8.ofNat (48 + 7)) = 55 := rfl
  rw [h3]
  by_cases h : x < 0
  · rw [if_pos h, if_pos (hs.2 h)]
  · rw [if_neg h, if_neg (fun h' => h (hs.1 h'))]
theorem seven_big {x : Int} (h : ¬ ab (10 * x) < pw 60) : ¬ ab (10 * x + 7 * sgn x) < pw 60 := by
  have : ab (10 * x) ≤ ab (10 * x + 7 * sgn x) := by
    rcases Int.lt_trichotomy x 0 with h | h | h
    · rw [sgn_of_neg h]; unfold ab; omega
    · subst h; rw [sgn_zero]; unfold ab; omega
    · rw [sgn_pos h]; unfold ab; omega
  omega

end Go.Proofs.YtkjpfnbdlbnbkaaGreatDoor

namespace Go.Proofs.YtkjpfnbdlbnbkaaGreatDoor
open Go.RowKit

theorem sgn_eq_zero {z : Int} (h : sgn z = 0) : z = 0 := by
  unfold sgn at h
  split at h
  · omega
  · split at h
    · assumption
    · omega
theorem sgn_neg_iff {z : Int} (h : -1 = sgn z) : z < 0 := by
  unfold sgn at h
  split at h
  · assumption
  · split at h <;> omega
theorem sgn_nonneg_iff {z : Int} (h : sgn z ≠ -1) : 0 ≤ z := by
  unfold sgn at h
  split at h
  · exact absurd rfl h
  · omega
theorem BO.s0 {w : World} {B : Nat} {s : Int} {A : Option Addr} {n c : Nat} (h : BO w B (.agg #[.int .i64 s, .slice A n c]) 0) : s = 0 := by
  obtain ⟨v, e, _⟩ := h
  injection e with e
  have e0 := congrArg (fun (a : Array Value) => a[0]?) e
  simp at e0
  rw [e0]; rfl
theorem gcd_pos {x y : Int} (h : x ≠ 0 ∨ y ≠ 0) : 0 < ((Int.gcd x y : Nat) : Int) := by
  have : 0 < Int.gcd x y := Nat.pos_of_ne_zero (fun h0 => by
    obtain ⟨h1, h2⟩ := Int.gcd_eq_zero_iff.1 h0
    rcases h with h | h <;> contradiction)
  omega
theorem gcd_lt {x y : Int} {k : Nat} (hx : ab x < pw k) (hy : ab y < pw k) : ab ((Int.gcd x y : Nat) : Int) < pw k := by
  have h1 : ab ((Int.gcd x y : Nat) : Int) = ((Int.gcd x y : Nat) : Int) := by unfold ab; omega
  rw [h1]
  by_cases h : x = 0
  · subst h
    rw [Int.gcd_zero_left]
    exact hy
  · have := Nat.gcd_le_left y.natAbs (show 0 < x.natAbs by omega)
    unfold ab at hx
    have e : Int.gcd x y = Nat.gcd x.natAbs y.natAbs := rfl
    omega
theorem gcd_neg (x y : Int) : Int.gcd (-y) x = Int.gcd x y := by rw [Int.neg_gcd, Int.gcd_comm]
theorem qr_dvd {x d q r : Int} (h : QR x d q r) (hd : d ∣ x) : r = 0 := by
  obtain ⟨h1, _, h3, _⟩ := h
  have h4 : d ∣ r := by
    have : r = x - q * d := by omega
    rw [this]
    exact Int.dvd_sub hd (Int.dvd_mul_left q d)
  rcases Int.natAbs_eq_zero.1 (Nat.eq_zero_of_dvd_of_lt (Int.natAbs_dvd_natAbs.2 h4) (by unfold ab at h3; omega)) with h5
  exact h5
theorem gcd_rem {x y q r : Int} (h : QR y x q r) : Int.gcd x r = Int.gcd x y := by
  have h1 : y = r + q * x := by have := h.1; omega
  rw [h1, Int.gcd_add_mul_right_right]
theorem gcd_factor (x y z : Int) : ((Int.gcd (x * z) (y * z) : Nat) : Int) = ((Int.gcd x y : Nat) : Int) * ab z := by
  rw [Int.gcd_mul_right]
  unfold ab
  omega

end Go.Proofs.YtkjpfnbdlbnbkaaGreatDoor
