/- Plain: the digits of a quotient. -/
import Derived.Test.YtofndidngjglmaaDoorH
namespace Go.Proofs.YtofndidngjglmaaDoor
open Go.RowKit

/-- The guess of a digit of the quotient is right, or one too great. -/
theorem guess_hi {P V T t3 f1 G : Int} (hP : 0 < P) (hV0 : f1 * P ≤ V) (hT1 : T < (t3 + 1) * P) (hTV : T < 1048576 * V) (hG : G = 1048575 ∨ t3 < (G + 1) * f1) (hG0 : 0 ≤ G) : T - G * V < V := by
  rcases hG with rfl | h
  · omega
  · have h1 : (t3 + 1) * P ≤ (G + 1) * f1 * P := Int.mul_le_mul_of_nonneg_right (by omega) (by omega)
    have h2 : (G + 1) * (f1 * P) ≤ (G + 1) * V := Int.mul_le_mul_of_nonneg_left hV0 (by omega)
    rw [Int.mul_assoc] at h1
    have h3 : (G + 1) * V = G * V + V := by rw [Int.add_mul, Int.one_mul]
    omega
theorem guess_lo {P V T t3 f1 G : Int} (hP : 0 < P) (hf : 1048576 ≤ f1) (hV0 : f1 * P ≤ V) (hV1 : V < (f1 + 1) * P) (hT0 : t3 * P ≤ T) (hG : G * f1 ≤ t3) (hG0 : 0 ≤ G) (hG1 : G ≤ 1048575) : -V ≤ T - G * V := by
  have h1 : G * V ≤ G * ((f1 + 1) * P) := Int.mul_le_mul_of_nonneg_left (by omega) hG0
  have h2 : G * f1 * P ≤ t3 * P := Int.mul_le_mul_of_nonneg_right hG (by omega)
  have h3 : G * P ≤ f1 * P := Int.mul_le_mul_of_nonneg_right (by omega) (by omega)
  have h4 : G * ((f1 + 1) * P) = G * f1 * P + G * P := by rw [Int.add_mul, Int.one_mul, Int.mul_add, Int.mul_assoc]
  omega

theorem nv_drop_wn (U : List Int) (o n : Nat) : nv (U.drop o) = wn U o n + pw n * nv (U.drop (o + n)) := by
  have h := nv_append ((U.drop o).take n) ((U.drop o).drop n)
  rw [List.take_append_drop, List.drop_drop] at h
  rw [h]
  unfold wn
  rcases Nat.lt_or_ge (U.drop o).length n with hl | hl
  · rw [List.length_drop] at hl
    have e : U.drop (o + n) = [] := List.drop_of_length_le (by omega)
    rw [e, nv_nil, Int.mul_zero, Int.mul_zero]
  · rw [List.length_take, Nat.min_eq_left hl]

theorem nv_tail_congr {U V : List Int} {o : Nat} (hl : U.length = V.length) (h : ∀ j, o ≤ j → U.getD j 0 = V.getD j 0) : nv (U.drop o) = nv (V.drop o) := by
  rw [nv_drop_wn U o U.length, nv_drop_wn V o U.length, wn_congr (V := V) (fun j _ => h (o + j) (by omega)), List.drop_of_length_le (l := U) (by omega), List.drop_of_length_le (l := V) (by omega)]

/-- What lies above the window is zero. -/
theorem above_zero {U : List Int} {j n : Nat} {V : Int} (hd : Dig U) (hR : nv (U.drop (j + 1)) < V) (hV : V < pw n) : nv (U.drop (j + 1 + n)) = 0 := by
  have h1 := nv_drop_wn U (j + 1) n
  have h2 := (hd.drop (j + 1 + n)).nv_nonneg
  have h3 := wn_bd (U := U) (o := j + 1) (n := n) (fun i _ => hd.getD' _)
  rcases Int.lt_or_le 0 (nv (U.drop (j + 1 + n))) with h | h
  · have : pw n * 1 ≤ pw n * nv (U.drop (j + 1 + n)) := Int.mul_le_mul_of_nonneg_left (by omega) (by have := pw_pos n; omega)
    omega
  · omega

/-- The window of a digit of the quotient: its value, and the bound of it. -/
theorem window {U : List Int} {j n : Nat} {V : Int} (hd : Dig U) (hj : j < U.length) (hR : nv (U.drop (j + 1)) < V) (hV : V < pw n) :
    nv (U.drop j) = wn U j (n + 1) ∧ 0 ≤ wn U j (n + 1) ∧ wn U j (n + 1) < 1048576 * V := by
  have h0 := above_zero hd hR hV
  have h1 := nv_drop_wn U j (n + 1)
  rw [show j + (n + 1) = j + 1 + n by omega, h0, Int.mul_zero, Int.add_zero] at h1
  have h2 := drop_cons hj
  have h3 := hd.getD' j
  have h4 := (hd.drop (j + 1)).nv_nonneg
  rw [h2, nv_cons] at h1
  refine ⟨by rw [h2, nv_cons, h1], by omega, by omega⟩

theorem after_window {U U' : List Int} {j n : Nat} (hd : Dig U) (hl : U'.length = U.length) (h0 : nv (U.drop (j + 1 + n)) = 0) (hs : ∀ i, (i < j ∨ j + n < i) → U'.getD i 0 = U.getD i 0)
    (hw : ∀ i, i < n → 0 ≤ U'.getD (j + i) 0 ∧ U'.getD (j + i) 0 < 1048576) (ht : U'.getD (j + n) 0 = 0) :
    Dig U' ∧ nv (U'.drop j) = wn U' j n ∧ nv U' = nv U + pw j * (wn U' j n - nv (U.drop j)) := by
  have hD : Dig U' := Dig.of_getD (fun k _ => by
    by_cases h1 : k < j ∨ j + n < k
    · rw [hs k h1]; exact hd.getD' k
    · by_cases h2 : k = j + n
      · rw [h2, ht]; decide
      · have := hw (k - j) (by omega)
        rw [show j + (k - j) = k by omega] at this
        exact this)
  have h1 := nv_drop_wn U' j (n + 1)
  rw [show j + (n + 1) = j + 1 + n by omega, nv_tail_congr (o := j + 1 + n) hl (fun i hi => hs i (by omega)), h0, Int.mul_zero, Int.add_zero, wn_succ, ht, Int.mul_zero, Int.add_zero] at h1
  have h2 := nv_drop_wn U' 0 j
  have h3 := nv_drop_wn U 0 j
  rw [Nat.zero_add, List.drop_zero, wn_congr (V := U) (fun i hi => hs (0 + i) (by omega)), h1] at h2
  rw [Nat.zero_add, List.drop_zero] at h3
  refine ⟨hD, h1, ?_⟩
  rw [h2, h3, Int.mul_sub]
  omega

/-- Where the first two digits of a divisor lie. -/
theorem first_two {l : List Int} {n : Nat} (hd : Dig l) (hn : l.length = n) (h2 : 2 ≤ n) : (l.getD (n - 1) 0 * 1048576 + l.getD (n - 2) 0) * pw (n - 2) ≤ nv l ∧ nv l < (l.getD (n - 1) 0 * 1048576 + l.getD (n - 2) 0 + 1) * pw (n - 2) := by
  obtain ⟨k, rfl⟩ : ∃ k, n = k + 2 := ⟨n - 2, by omega⟩
  have e := nv_take_all l (k := k + 2) (by omega)
  rw [nv_take_succ', nv_take_succ', pw_succ] at e
  have h := (hd.take k).nv_lt
  have h0 := (hd.take k).nv_nonneg
  rw [List.length_take, Nat.min_eq_left (by omega)] at h
  simp only [Nat.add_sub_cancel, show k + 2 - 1 = k + 1 from rfl]
  rw [← e, Int.add_mul, Int.add_mul, Int.add_mul, Int.one_mul]
  have e1 : l.getD (k + 1) 0 * 1048576 * pw k = 1048576 * pw k * l.getD (k + 1) 0 := by rw [Int.mul_assoc, Int.mul_comm]
  have e2 : l.getD k 0 * pw k = pw k * l.getD k 0 := Int.mul_comm _ _
  omega
theorem first_three {U : List Int} {j n : Nat} (hd : Dig U) (h2 : 2 ≤ n) : (U.getD (j + n) 0 * 1099511627776 + U.getD (j + (n - 1)) 0 * 1048576 + U.getD (j + (n - 2)) 0) * pw (n - 2) ≤ wn U j (n + 1) ∧
    wn U j (n + 1) < (U.getD (j + n) 0 * 1099511627776 + U.getD (j + (n - 1)) 0 * 1048576 + U.getD (j + (n - 2)) 0 + 1) * pw (n - 2) := by
  obtain ⟨k, rfl⟩ : ∃ k, n = k + 2 := ⟨n - 2, by omega⟩
  have h := wn_bd (U := U) (o := j) (n := k) (fun i _ => hd.getD' _)
  rw [wn_succ, wn_succ, wn_succ, pw_succ (k + 1), pw_succ k]
  simp only [Nat.add_sub_cancel, show k + 2 - 1 = k + 1 from rfl]
  obtain ⟨a, ha⟩ : ∃ a, U.getD (j + (k + 2)) 0 = a := ⟨_, rfl⟩
  obtain ⟨b, hb⟩ : ∃ a, U.getD (j + (k + 1)) 0 = a := ⟨_, rfl⟩
  obtain ⟨c, hc⟩ : ∃ a, U.getD (j + k) 0 = a := ⟨_, rfl⟩
  rw [ha, hb, hc]
  obtain ⟨p, hp⟩ : ∃ p, pw k = p := ⟨_, rfl⟩
  rw [hp] at h ⊢
  have e0 : ∀ z : Int, (a * 1099511627776 + b * 1048576 + c + z) * p = 1099511627776 * (p * a) + 1048576 * (p * b) + p * c + z * p := fun z => by
    rw [Int.add_mul, Int.add_mul, Int.add_mul, Int.mul_comm c p, Int.mul_assoc a, Int.mul_assoc b, Int.mul_left_comm a, Int.mul_left_comm b, Int.mul_comm a p, Int.mul_comm b p]
  have e1 := e0 0
  have e2 := e0 1
  rw [Int.add_zero, Int.zero_mul] at e1
  rw [Int.one_mul] at e2
  have e3 : 1048576 * p * b = 1048576 * (p * b) := Int.mul_assoc _ _ _
  have e4 : 1048576 * (1048576 * p) * a = 1099511627776 * (p * a) := by rw [← Int.mul_assoc 1048576 1048576, Int.mul_assoc]; rfl
  omega

theorem top_bd {y : Int} {n : Nat} (hy : 0 ≤ y) (hn : (D y).length = n) (h1 : 1 ≤ n) : pw (n - 1) * (D y).getD (n - 1) 0 ≤ y ∧ y < pw (n - 1) * ((D y).getD (n - 1) 0 + 1) := by
  obtain ⟨k, rfl⟩ : ∃ k, n = k + 1 := ⟨n - 1, by omega⟩
  have e := nv_take_all (D y) (k := k + 1) (by omega)
  rw [nv_D hy, nv_take_succ'] at e
  have h := ((Dig_D y).take k).nv_lt
  have h0 := ((Dig_D y).take k).nv_nonneg
  rw [List.length_take, Nat.min_eq_left (by omega)] at h
  rw [Nat.add_sub_cancel, Int.mul_add, Int.mul_one]
  omega

/-- The factor that lets the first digit have all its bits. -/
theorem scaled {y : Int} {n bl : Nat} (hy : 0 ≤ y) (hn : (D y).length = n) (h1 : 1 ≤ n) (hb : 1 ≤ bl) (hb2 : bl ≤ 20) (ht : (D y).getD (n - 1) 0 + 1 ≤ 2 ^ bl) (ht1 : 1 ≤ (D y).getD (n - 1) 0) {f : Int} (hf : f = 2 ^ (20 - bl)) :
    1 ≤ f ∧ f ≤ 524288 ∧ pw (n - 1) ≤ y ∧ f * y < pw n := by
  have ⟨h2, h3⟩ := top_bd hy hn h1
  have hfp : 1 ≤ f := by
    rw [hf]
    have : (0 : Int) < 2 ^ (20 - bl) := Int.pow_pos (by omega)
    omega
  have hff : f * 2 ^ bl = 1048576 := by
    rw [hf, ← Int.pow_add, show 20 - bl + bl = 20 by omega]; rfl
  have hp := pw_pos (n - 1)
  refine ⟨hfp, ?_, ?_, ?_⟩
  · have : f * 2 ≤ f * 2 ^ bl := Int.mul_le_mul_of_nonneg_left (by
      obtain ⟨j, rfl⟩ : ∃ j, bl = j + 1 := ⟨bl - 1, by omega⟩
      rw [Int.pow_succ]
      have : (0 : Int) < 2 ^ j := Int.pow_pos (by omega)
      omega) (by omega)
    omega
  · have : pw (n - 1) * 1 ≤ pw (n - 1) * (D y).getD (n - 1) 0 := Int.mul_le_mul_of_nonneg_left ht1 (by omega)
    omega
  · have a1 : f * y < f * (pw (n - 1) * ((D y).getD (n - 1) 0 + 1)) := Int.mul_lt_mul_of_pos_left h3 (by omega)
    have a2 : f * ((D y).getD (n - 1) 0 + 1) ≤ f * 2 ^ bl := Int.mul_le_mul_of_nonneg_left ht (by omega)
    have a3 : pw (n - 1) * (f * ((D y).getD (n - 1) 0 + 1)) ≤ pw (n - 1) * (f * 2 ^ bl) := Int.mul_le_mul_of_nonneg_left a2 (by omega)
    rw [hff] at a3
    have a4 : f * (pw (n - 1) * ((D y).getD (n - 1) 0 + 1)) = pw (n - 1) * (f * ((D y).getD (n - 1) 0 + 1)) := by
      rw [← Int.mul_assoc, Int.mul_comm f, Int.mul_assoc]
    have a5 : pw n = 1048576 * pw (n - 1) := by rw [← pw_succ, show n - 1 + 1 = n by omega]
    omega

theorem scaled_lt {f x : Int} {m : Nat} (hf : f ≤ 524288) (hx : 0 ≤ x) (h : x < pw m) : f * x < pw (m + 1) := by
  rw [pw_succ]
  have h1 : f * x ≤ 524288 * x := Int.mul_le_mul_of_nonneg_right hf hx
  omega
theorem le_scaled {f x : Int} (hf : 1 ≤ f) (hx : 0 ≤ x) : x ≤ f * x := by
  have h1 : 1 * x ≤ f * x := Int.mul_le_mul_of_nonneg_right hf hx
  omega

/-- Of a quotient and a remainder that both are scaled. -/
theorem unscale {f x y q u : Int} (hf : 1 ≤ f) (hy : 1 ≤ y) (h : u + f * y * q = f * x) (h0 : 0 ≤ u) (h1 : u < f * y) : q = x / y ∧ u / f = x % y := by
  have e : u = f * (x - y * q) := by
    rw [Int.mul_sub, ← Int.mul_assoc]; omega
  have e2 : u / f = x - y * q := by rw [e]; exact Int.mul_ediv_cancel_left _ (by omega)
  have r0 : 0 ≤ x - y * q := by
    rw [← e2]; exact Int.ediv_nonneg h0 (by omega)
  have r1 : x - y * q < y := by
    rw [← e2]; exact Int.ediv_lt_of_lt_mul (by omega) (by rw [Int.mul_comm]; exact h1)
  have e3 : x = (x - y * q) + y * q := by omega
  have e4 : x / y = q := by
    rw [e3, Int.add_mul_ediv_left _ _ (by omega), Int.ediv_eq_zero_of_lt r0 r1]; omega
  have e5 : x % y = x - y * q := by rw [Int.emod_def, e4]
  exact ⟨e4.symm, by rw [e2, e5]⟩

/-- The digits of a quotient: one round. -/
theorem round_q {V Pj q tq T T' nU nU' tot : Int} (h : nU + V * (1048576 * Pj * tq) = tot) (hU : nU' = nU + Pj * (T' - T)) (hT : T' = T - q * V) : nU' + V * (Pj * (q + 1048576 * tq)) = tot := by
  rw [hU, hT, ← h, Int.mul_add Pj, Int.mul_add V]
  have e1 : Pj * (T - q * V - T) = -(V * (Pj * q)) := by
    rw [show T - q * V - T = -(q * V) by omega, Int.mul_neg, ← Int.mul_assoc, Int.mul_comm]
  have e2 : Pj * (1048576 * tq) = 1048576 * Pj * tq := by rw [← Int.mul_assoc, Int.mul_comm Pj]
  rw [e1, e2]
  omega

end Go.Proofs.YtofndidngjglmaaDoor
