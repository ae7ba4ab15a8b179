/- Walks: leading; steps: what it keeps. -/
import Derived.Test.YtofndidngjglmaaDoorJ
import Derived.Test.YtofndidngjglmaaDoorF
import Derived.Laws.Rows
namespace Go.Proofs.YtofndidngjglmaaDoor
open Go.RowKit

theorem nv_drop_div {l : List Int} (hd : Dig l) (k : Nat) : nv (l.drop k) = nv l / pw k := by
  rcases Nat.lt_or_ge l.length k with h | h
  · rw [List.drop_of_length_le (by omega), nv_nil]
    have h1 := hd.nv_lt
    have h2 := pw_le (a := l.length) (b := k) (by omega)
    exact (Int.ediv_eq_zero_of_lt hd.nv_nonneg (by omega)).symm
  · have h1 := nv_split l k h
    have h2 := (hd.take k).nv_lt
    have h3 := (hd.take k).nv_nonneg
    rw [List.length_take, Nat.min_eq_left h] at h2
    rw [h1, Int.add_mul_ediv_left _ _ (by have := pw_pos k; omega), Int.ediv_eq_zero_of_lt h3 h2, Int.zero_add]

set_option maxRecDepth 100000 in
set_option maxHeartbeats 400000 in
theorem leading_any (z : Int) (b off c n : Nat) (w : World) (hI : IntsAt w.heap.size w (some ⟨b, off, none⟩) (D z)) (hz : 0 ≤ z) (hc : (D z).length ≤ c) (hl : (D z).length ≤ n) (hn : 3 ≤ n) (hn2 : n ≤ 1000) (hp : 1 ≤ (D z).length) :
    Calls Tryd.prog 65 #[.slice (some ⟨b, off, none⟩) (D z).length c, .int .i64 n] w fun e w' => e = .returned (.int .i64 (z / pw (n - 3))) ∧ Below w.heap.size w w' := by
  have hzp : z < pw n := (D_len_le hz).1 hl
  have hq0 : 0 ≤ z / pw (n - 3) := Int.ediv_nonneg hz (by have := pw_pos (n - 3); omega)
  have hq1 : z / pw (n - 3) < 1152921504606846976 := by
    refine Int.ediv_lt_of_lt_mul (pw_pos _) ?_
    have h : pw n = pw 3 * pw (n - 3) := by rw [← pw_add]; congr 1; omega
    have h6 : pw 3 = 1152921504606846976 := by decide
    rw [← h6, ← h]; exact hzp
  by_cases hlt : (D z).length < n - 3
  · have : z / pw (n - 3) = 0 := Int.ediv_eq_zero_of_lt hz ((D_len_le hz).1 (by omega))
    rw [this]
    obtain ⟨m, hm⟩ : ∃ m, (D z).length = m := ⟨_, rfl⟩
    rw [hm] at hlt ⊢
    clear hm this
    go_enter Tryd.func65, Tryd.ntmps65
    go_wp2_with fail
    go_ret
    exact ⟨rfl, Below.refl _ _⟩
  · have hdrop : nv ((D z).drop (n - 3)) = z / pw (n - 3) := by rw [nv_drop_div (Dig_D z), nv_D hz]
    have hdl : ((D z).drop (n - 3)).length = (D z).length - (n - 3) := by rw [List.length_drop]
    obtain ⟨A, hA, hIA⟩ : ∃ A : Option Addr, (if c = n - 3 then some (⟨b, off, none⟩ : Addr) else some ⟨b, off + (n - 3), none⟩) = A ∧ IntsAt w.heap.size w A ((D z).drop (n - 3)) := by
      refine ⟨_, rfl, fun k hk => ?_⟩
      rw [hdl] at hk
      obtain ⟨b', o', h1, h2, h3⟩ := hI (n - 3 + k) (by omega)
      injection h1 with h1
      injection h1 with h1 h4
      subst h1; subst h4
      rw [if_neg (by omega)]
      refine ⟨b, off + (n - 3), rfl, h2, ?_⟩
      rw [Nat.add_assoc, h3, List.getD_eq_getElem?_getD, List.getD_eq_getElem?_getD, List.getElem?_drop]
    have hj := join_any A (c - (n - 3)) ((D z).drop (n - 3)) w hIA ((Dig_D z).drop _) (by omega) (by rw [hdrop]; omega)
    rw [hdl, hdrop] at hj
    obtain ⟨m, hm⟩ : ∃ m, (D z).length = m := ⟨_, rfl⟩
    rw [hm] at hlt hl hc hj ⊢
    obtain ⟨q, hq⟩ : ∃ q, z / pw (n - 3) = q := ⟨_, rfl⟩
    rw [hq] at hj hq0 hq1 ⊢
    have HA := Lib.hid hA
    clear hm hdl hdrop hq hA
    have HJ := Lib.hid hj; clear hj
    by_cases hcap : c = n - 3
    · subst hcap
      have hA := HA.out
      rw [if_pos rfl] at hA
      subst hA
      have hj := HJ.out
      rw [Nat.sub_self, show m - (n - 3) = 0 by omega] at hj
      have HJ2 := Lib.hid hj; clear hj HJ HA
      go_enter Tryd.func65, Tryd.ntmps65
      go_wp2_with fail
      refine HJ2.out.mono ?_
      rintro e w1 ⟨rfl, hb1⟩
      go_wp2_with fail
      go_ret
      exact ⟨rfl, hb1⟩
    · have hA := HA.out
      rw [if_neg hcap] at hA
      subst hA
      clear HA
      go_enter Tryd.func65, Tryd.ntmps65
      go_wp2_with fail
      refine HJ.out.mono ?_
      rintro e w1 ⟨rfl, hb1⟩
      go_wp2_with fail
      go_ret
      exact ⟨rfl, hb1⟩

/-- What the factors of some steps of Euclid's algorithm do to every two numbers whose highest bits are xh and yh. -/
def Lehm (xh yh x y A B C E : Int) : Prop :=
  x = A * xh + B * yh ∧ y = C * xh + E * yh ∧ 0 ≤ x + A ∧ 0 ≤ x + B ∧ 0 ≤ y + C ∧ 0 ≤ y + E ∧ 0 ≤ x ∧ 0 ≤ y ∧ y ≤ x ∧ x < 2199023255552 ∧
  ((0 ≤ A ∧ B ≤ 0 ∧ C ≤ 0 ∧ 0 ≤ E) ∨ (A ≤ 0 ∧ 0 ≤ B ∧ 0 ≤ C ∧ E ≤ 0)) ∧
  -2199023255552 ≤ A ∧ A ≤ 2199023255552 ∧ -2199023255552 ≤ B ∧ B ≤ 2199023255552 ∧ -2199023255552 ≤ C ∧ C ≤ 2199023255552 ∧ -2199023255552 ≤ E ∧ E ≤ 2199023255552

/-- .. and to the numbers themselves. -/
def LehmAll (xh yh A B C E : Int) : Prop :=
  ∀ k s t, 0 < k → 0 ≤ s → s < k → 0 ≤ t → t < k → yh * k + t ≤ xh * k + s →
    0 ≤ C * (xh * k + s) + E * (yh * k + t) ∧ C * (xh * k + s) + E * (yh * k + t) ≤ A * (xh * k + s) + B * (yh * k + t) ∧
    C * (xh * k + s) + E * (yh * k + t) ≤ yh * k + t ∧
    (B ≠ 0 → C * (xh * k + s) + E * (yh * k + t) < yh * k + t) ∧
    Int.gcd (A * (xh * k + s) + B * (yh * k + t)) (C * (xh * k + s) + E * (yh * k + t)) = Int.gcd (xh * k + s) (yh * k + t) ∧
    A * (xh * k + s) + B * (yh * k + t) ≤ xh * k + s

theorem lehm_start {xh yh : Int} (h0 : 0 ≤ yh) (h1 : yh ≤ xh) (h2 : xh < 2199023255552) : Lehm xh yh xh yh 1 0 0 1 ∧ LehmAll xh yh 1 0 0 1 := by
  refine ⟨⟨by omega, by omega, by omega, by omega, by omega, by omega, by omega, h0, h1, h2, .inl (by omega), by omega, by omega, by omega, by omega, by omega, by omega, by omega, by omega⟩, fun k s t hk hs0 hs1 ht0 ht1 hle => ?_⟩
  have : 0 ≤ yh * k := Int.mul_nonneg h0 (by omega)
  simp only [Int.zero_mul, Int.one_mul, Int.add_zero, Int.zero_add]
  exact ⟨by omega, hle, Int.le_refl _, fun h => absurd rfl h, trivial, Int.le_refl _⟩

theorem corner {k s t y C E : Int} (hs0 : 0 ≤ s) (hs1 : s ≤ k) (ht0 : 0 ≤ t) (ht1 : t ≤ k) (hsg : (C ≤ 0 ∧ 0 ≤ E) ∨ (0 ≤ C ∧ E ≤ 0)) (h1 : 0 ≤ y + C) (h2 : 0 ≤ y + E) : 0 ≤ y * k + C * s + E * t := by
  rcases hsg with ⟨a, b⟩ | ⟨a, b⟩
  · have e1 : C * k ≤ C * s := Int.mul_le_mul_of_nonpos_left a hs1
    have e2 : 0 ≤ E * t := Int.mul_nonneg b ht0
    have e3 : 0 ≤ (y + C) * k := Int.mul_nonneg h1 (by omega)
    rw [Int.add_mul] at e3
    omega
  · have e1 : E * k ≤ E * t := Int.mul_le_mul_of_nonpos_left b ht1
    have e2 : 0 ≤ C * s := Int.mul_nonneg a hs0
    have e3 : 0 ≤ (y + E) * k := Int.mul_nonneg h2 (by omega)
    rw [Int.add_mul] at e3
    omega

theorem lin_k {xh yh k s t y C E : Int} (h : y = C * xh + E * yh) : C * (xh * k + s) + E * (yh * k + t) = y * k + C * s + E * t := by
  rw [h, Int.mul_add, Int.mul_add, Int.add_mul, ← Int.mul_assoc, ← Int.mul_assoc]
  omega

theorem lehm_step {xh yh x y A B C E q : Int} (h : Lehm xh yh x y A B C E) (ha : LehmAll xh yh A B C E) (hC : 0 < y + C) (hE : 0 < y + E) (h1 : q = (x + A) / (y + C)) (h2 : q = (x + B) / (y + E)) :
    Lehm xh yh y (x - q * y) C E (A - q * C) (B - q * E) ∧ LehmAll xh yh C E (A - q * C) (B - q * E) ∧ x - q * y < y := by
  obtain ⟨hx, hy, c1, c2, c3, c4, c5, c6, c7, c8, hsg, b1, b2, b3, b4, b5, b6, b7, b8⟩ := h
  have hq0 : 0 ≤ q := by rw [h1]; exact Int.ediv_nonneg c1 (by omega)
  have r1 := Int.mul_ediv_add_emod (x + A) (y + C)
  have r1a := Int.emod_nonneg (x + A) (b := y + C) (by omega)
  have r1b := Int.emod_lt_of_pos (x + A) hC
  have r2 := Int.mul_ediv_add_emod (x + B) (y + E)
  have r2a := Int.emod_nonneg (x + B) (b := y + E) (by omega)
  have r2b := Int.emod_lt_of_pos (x + B) hE
  rw [← h1, Int.mul_comm, Int.mul_add] at r1
  rw [← h2, Int.mul_comm, Int.mul_add] at r2
  have s1 : 0 ≤ (x - q * y) + (A - q * C) ∧ (x - q * y) + (A - q * C) < y + C := by omega
  have s2 : 0 ≤ (x - q * y) + (B - q * E) ∧ (x - q * y) + (B - q * E) < y + E := by omega
  clear r1 r1a r1b r2 r2a r2b h1 h2
  have hyy : x - q * y = (A - q * C) * xh + (B - q * E) * yh := by
    rw [Int.sub_mul, Int.sub_mul, Int.mul_assoc, Int.mul_assoc, hx]
    have : q * y = q * (C * xh) + q * (E * yh) := by rw [hy, Int.mul_add]
    omega
  have sg : ((C ≤ 0 ∧ 0 ≤ E) ∧ (0 ≤ A - q * C ∧ B - q * E ≤ 0)) ∨ ((0 ≤ C ∧ E ≤ 0) ∧ (A - q * C ≤ 0 ∧ 0 ≤ B - q * E)) := by
    rcases hsg with ⟨d1, d2, d3, d4⟩ | ⟨d1, d2, d3, d4⟩
    · have e1 : q * C ≤ q * 0 := Int.mul_le_mul_of_nonneg_left d3 hq0
      have e2 : 0 ≤ q * E := Int.mul_nonneg hq0 d4
      exact .inl ⟨⟨d3, d4⟩, by omega, by omega⟩
    · have e1 : q * E ≤ q * 0 := Int.mul_le_mul_of_nonneg_left d4 hq0
      have e2 : 0 ≤ q * C := Int.mul_nonneg hq0 d3
      exact .inr ⟨⟨d3, d4⟩, by omega, by omega⟩
  have hgy : q * y ≤ q * y := Int.le_refl _
  obtain ⟨y', hy'⟩ : ∃ z, x - q * y = z := ⟨_, rfl⟩
  obtain ⟨C', hC'⟩ : ∃ z, A - q * C = z := ⟨_, rfl⟩
  obtain ⟨E', hE'⟩ : ∃ z, B - q * E = z := ⟨_, rfl⟩
  rw [hy', hC'] at s1
  rw [hy', hE'] at s2
  rw [hy', hC', hE'] at hyy
  rw [hC', hE'] at sg
  refine ⟨?_, ?_, ?_⟩
  · rw [hy', hC', hE']
    refine ⟨hy, hyy, by omega, by omega, by omega, by omega, by omega, ?_, ?_, by omega, ?_, by omega, by omega, by omega, by omega, ?_, ?_, ?_, ?_⟩
    all_goals first
      | (rcases sg with ⟨⟨d1, d2⟩, d3, d4⟩ | ⟨⟨d1, d2⟩, d3, d4⟩ <;> omega)
  · intro k s t hk hs0 hs1 ht0 ht1 hle
    obtain ⟨f1, f2, f3, f4, f5, f6⟩ := ha k s t hk hs0 hs1 ht0 ht1 hle
    rw [hC', hE']
    have g1 : C' * (xh * k + s) + E' * (yh * k + t) = (A * (xh * k + s) + B * (yh * k + t)) - q * (C * (xh * k + s) + E * (yh * k + t)) := by
      rw [← hC', ← hE', Int.sub_mul, Int.sub_mul, Int.mul_add q, ← Int.mul_assoc q, ← Int.mul_assoc q]
      omega
    have g2 := lin_k (k := k) (s := s) (t := t) hyy
    have g3 := lin_k (k := k) (s := s) (t := t) hy
    have g4 : 0 ≤ y' * k + C' * s + E' * t := corner hs0 (by omega) ht0 (by omega) (by omega) s1.1 s2.1
    have g5 : 0 ≤ (y - y' - 1) * k + (C - C') * s + (E - E') * t := corner hs0 (by omega) ht0 (by omega) (by omega) (by omega) (by omega)
    rw [Int.sub_mul, Int.sub_mul, Int.sub_mul, Int.sub_mul, Int.one_mul] at g5
    refine ⟨by omega, by omega, by omega, fun _ => by omega, ?_, by omega⟩
    rw [g1, Int.gcd_sub_mul_right_right, Int.gcd_comm, f5]
  · rw [hy']
    rcases sg with ⟨⟨d1, d2⟩, d3, d4⟩ | ⟨⟨d1, d2⟩, d3, d4⟩ <;> omega

end Go.Proofs.YtofndidngjglmaaDoor
