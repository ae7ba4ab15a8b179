/- What the laws say, in plain. What the law on the greatest common divisor says, in plain. Walks: Gcd where an argument is not right. -/
import Derived.Test.YtgpmmpajnfbecaaGreatXam

namespace Go.Proofs.YtgpmmpajnfbecaaGreat
open Go.RowKit

theorem cmp_cases (x y : Int) : (x < y ∧ Lib.compareInt x y = -1) ∨ (x = y ∧ Lib.compareInt x y = 0) ∨ (y < x ∧ Lib.compareInt x y = 1) := by
  unfold Lib.compareInt
  rcases Int.lt_trichotomy x y with h | h | h
  · exact .inl ⟨h, if_pos h⟩
  · exact .inr (.inl ⟨h, by rw [if_neg (by omega), if_neg (by omega)]⟩)
  · exact .inr (.inr ⟨h, by rw [if_neg (by omega), if_pos (by omega)]⟩)
theorem cmp_sub (x y : Int) : sgn (x - y) = Lib.compareInt x y := by
  rcases cmp_cases x y with ⟨h, e⟩ | ⟨h, e⟩ | ⟨h, e⟩ <;> rw [e] <;> unfold sgn
  · rw [if_pos (by omega)]
  · rw [if_neg (by omega), if_pos (by omega)]
  · rw [if_neg (by omega), if_neg (by omega)]
theorem cmp_neg (x y : Int) : Lib.compareInt y x = -Lib.compareInt x y := by
  rcases cmp_cases x y with ⟨h, e⟩ | ⟨h, e⟩ | ⟨h, e⟩ <;> rcases cmp_cases y x with ⟨h', e'⟩ | ⟨h', e'⟩ | ⟨h', e'⟩ <;> omega
theorem cmp_zero (x y : Int) : (Lib.compareInt x y == 0) = decide (x = y) := by
  rcases cmp_cases x y with ⟨h, e⟩ | ⟨h, e⟩ | ⟨h, e⟩ <;> rw [e]
  · rw [decide_eq_false (by omega)]; rfl
  · rw [decide_eq_true h]; rfl
  · rw [decide_eq_false (by omega)]; rfl
end Go.Proofs.YtgpmmpajnfbecaaGreat

namespace Go.Proofs.YtgpmmpajnfbecaaGreat
open Go.RowKit

theorem sgn_eq_zero {z : Int} (h : sgn z = 0) : z = 0 := by
  unfold sgn at h
  split at h
  · omega
  · split at h
    · assumption
    · omega
theorem BO.s0 {w : World} {B : Nat} {s : Int} {A : Option Addr} {n c : Nat} (h : BO w B (.agg #[.int .i64 s, .slice A n c]) 0) : s = 0 := by
  obtain ⟨v, e, _⟩ := h
  injection e with e
  have e0 := congrArg (fun (a : Array Value) => a[0]?) e
  simp at e0
  rw [e0]; rfl
theorem gcd_pos {x y : Int} (h : x ≠ 0 ∨ y ≠ 0) : 0 < ((Int.gcd x y : Nat) : Int) := by
  have : 0 < Int.gcd x y := Nat.pos_of_ne_zero (fun h0 => by
    obtain ⟨h1, h2⟩ := Int.gcd_eq_zero_iff.1 h0
    rcases h with h | h <;> contradiction)
  omega
theorem gcd_lt {x y : Int} {k : Nat} (hx : ab x < pw k) (hy : ab y < pw k) : ab ((Int.gcd x y : Nat) : Int) < pw k := by
  have h1 : ab ((Int.gcd x y : Nat) : Int) = ((Int.gcd x y : Nat) : Int) := by unfold ab; omega
  rw [h1]
  by_cases h : x = 0
  · subst h
    rw [Int.gcd_zero_left]
    exact hy
  · have := Nat.gcd_le_left y.natAbs (show 0 < x.natAbs by omega)
    unfold ab at hx
    have e : Int.gcd x y = Nat.gcd x.natAbs y.natAbs := rfl
    omega
theorem qr_dvd {x d q r : Int} (h : QR x d q r) (hd : d ∣ x) : r = 0 := by
  obtain ⟨h1, _, h3, _⟩ := h
  have h4 : d ∣ r := by
    have : r = x - q * d := by omega
    rw [this]
    exact Int.dvd_sub hd (Int.dvd_mul_left q d)
  rcases Int.natAbs_eq_zero.1 (Nat.eq_zero_of_dvd_of_lt (Int.natAbs_dvd_natAbs.2 h4) (by unfold ab at h3; omega)) with h5
  exact h5
end Go.Proofs.YtgpmmpajnfbecaaGreat

namespace Go.Proofs.YtgpmmpajnfbecaaGreat
open Go.RowKit

set_option maxRecDepth 100000 in
set_option maxHeartbeats 2000000 in
theorem gcd_bad {s1 s2 : Int} {l1 l2 : List Int} {A1 A2 : Option Addr} {n1 c1 n2 c2 : Nat} {w : World} (h1 : Ar w s1 l1 A1 n1 c1) (h2 : Ar w s2 l2 A2 n2 c2) (hb : ¬ (RightP s1 l1 ∧ RightP s2 l2)) :
    Calls Tryz.prog 54 #[.agg #[.int .i64 s1, .slice A1 n1 c1], .agg #[.int .i64 s2, .slice A2 n2 c2]] w fun e w' => e = .returned (.tuple #[.agg #[.int .i64 0, .slice none 0 0], .int .i64 1]) ∧ Below w.heap.size w w' := by
  have hH := fun (w' : World) (h : Below w.heap.size w w') (b : Bool) => (h1.later h).right b
  have hG := fun (w' : World) (h : Below w.heap.size w w') (b : Bool) => (h2.later h).right b
  have HH := Lib.hid hH; clear hH
  have HG := Lib.hid hG; clear hG
  have HB := Lib.hid hb; clear hb
  by_cases hr : RightP s1 l1
  · have hn : ¬ RightP s2 l2 := fun h => HB.out ⟨hr, h⟩
    have HR := Lib.hid hr; clear hr
    have HN := Lib.hid hn; clear hn
    clear h1 h2
    go_enter Tryz.func54, Tryz.ntmps54
    go_wp2_with fail
    obtain ⟨w1, hw1, hb1, k1, k2, k3, _⟩ := boxes3 w #[.int .i64 s1, .slice A1 n1 c1] #[.int .i64 s2, .slice A2 n2 c2] #[.int .i64 0, .slice none 0 0]
    rw [← hw1]
    clear hw1
    (with_reducible refine (HH.out w1 hb1 true (by simp [HR.out])).mono ?_)
    rintro e w2 ⟨rfl, hb2⟩
    have k2 := k2.below hb2 k2.lt
    have k3 := k3.below hb2 k3.lt
    have hb2 := hb1.trans (hb2.mono hb1.size)
    have j1 : w2.cell? ⟨w.heap.size + 1, 0, none⟩ = some (.int .i64 s2) := k2.cell 0
    have j2 : w2.cell? ⟨w.heap.size + 1, 1, none⟩ = some (.slice A2 n2 c2) := k2.cell 1
    go_wp2_with fail
    clear j1 j2
    (with_reducible refine (HG.out w2 hb2 false (by simp [HN.out])).mono ?_)
    rintro e w3 ⟨rfl, hb3⟩
    have k3 := k3.below hb3 k3.lt
    have hb3 := hb2.trans (hb3.mono hb2.size)
    clear k1 k2 hb1 hb2 HH HG
    obtain ⟨g, hg⟩ : ∃ g, w.heap.size + 1 + 1 = g := ⟨_, rfl⟩
    have hgw : w.heap.size ≤ g := by omega
    rw [hg] at k3 ⊢
    clear hg
    have c30 : w3.cell? ⟨g, 0, none⟩ = some (.int .i64 0) := k3.cell 0
    have c31 : w3.cell? ⟨g, 1, none⟩ = some (.slice none 0 0) := k3.cell 1
    have f30 := k3.frozen 0
    have f31 := k3.frozen 1
    have hbs := k3.set2 (.int .i64 0) (.slice none 0 0)
    have d0 := hbs.cell 0
    have d1 := hbs.cell 1
    simp at d0 d1
    have hb9 := (hb3.setCell (p := ⟨g, 0, none⟩) hgw (.int .i64 0)).setCell (p := ⟨g, 1, none⟩) hgw (.slice none 0 0)
    go_wp2_with fail
    refine bodyPost_ret (v := .tuple #[.agg #[.int .i64 0, .slice none 0 0], .int .i64 1]) (by simp [results, Tryz.results54, go_sem, d0, d1]) rfl ?_
    exact ⟨rfl, hb9⟩
  · have HN := Lib.hid hr; clear hr
    clear h1 h2
    go_enter Tryz.func54, Tryz.ntmps54
    go_wp2_with fail
    obtain ⟨w1, hw1, hb1, k1, k2, k3, _⟩ := boxes3 w #[.int .i64 s1, .slice A1 n1 c1] #[.int .i64 s2, .slice A2 n2 c2] #[.int .i64 0, .slice none 0 0]
    rw [← hw1]
    clear hw1
    (with_reducible refine (HH.out w1 hb1 false (by simp [HN.out])).mono ?_)
    rintro e w2 ⟨rfl, hb2⟩
    have k3 := k3.below hb2 k3.lt
    have hb2 := hb1.trans (hb2.mono hb1.size)
    clear k1 k2 hb1 HH HG
    obtain ⟨g, hg⟩ : ∃ g, w.heap.size + 1 + 1 = g := ⟨_, rfl⟩
    have hgw : w.heap.size ≤ g := by omega
    rw [hg] at k3 ⊢
    clear hg
    have c30 : w2.cell? ⟨g, 0, none⟩ = some (.int .i64 0) := k3.cell 0
    have c31 : w2.cell? ⟨g, 1, none⟩ = some (.slice none 0 0) := k3.cell 1
    have f30 := k3.frozen 0
    have f31 := k3.frozen 1
    have hbs := k3.set2 (.int .i64 0) (.slice none 0 0)
    have d0 := hbs.cell 0
    have d1 := hbs.cell 1
    simp at d0 d1
    have hb9 := (hb2.setCell (p := ⟨g, 0, none⟩) hgw (.int .i64 0)).setCell (p := ⟨g, 1, none⟩) hgw (.slice none 0 0)
    go_wp2_with fail
    refine bodyPost_ret (v := .tuple #[.agg #[.int .i64 0, .slice none 0 0], .int .i64 1]) (by simp [results, Tryz.results54, go_sem, d0, d1]) rfl ?_
    exact ⟨rfl, hb9⟩

end Go.Proofs.YtgpmmpajnfbecaaGreat
