/- Plain: decimal digits: what is read of them, and how they are cut into pieces. No program. Walks: Mul. Walks: isNumber, parse, Read. -/
import Derived.Test.YtgpmmpajnfbecaaGreatXaf
import Derived.Lib.ItoaNum
import Derived.Lib.Atoi
import Derived.Test.YtgpmmpajnfbecaaGreatXae
import Derived.Lib.SmallJoins
import Derived.Test.YtgpmmpajnfbecaaGreatXad

namespace Go.Proofs.YtgpmmpajnfbecaaGreat
open Go.RowKit

theorem dd_lt {n : Nat} (h : n < 10) : Lib.decDigits n = [UInt8.ofNat (48 + n)] := Lib.decDigits_one h
theorem dd_ge {n : Nat} (h : ¬ n < 10) : Lib.decDigits n = Lib.decDigits (n / 10) ++ [UInt8.ofNat (48 + n % 10)] := by
  rw [Lib.decDigits, dif_neg h]

/-- What decimal digits spell. -/
def dv (l : List UInt8) : Nat := l.foldl (fun a b => a * 10 + (b.toNat - 48)) 0
theorem dd_ne (n : Nat) : Lib.decDigits n ≠ [] := by
  by_cases h : n < 10
  · rw [dd_lt h]; simp
  · rw [dd_ge h]; simp
/-- A number below 10^k with zeros ahead of it. -/
def pad (k m : Nat) : List UInt8 := List.replicate (k - (Lib.decDigits m).length) 48 ++ Lib.decDigits m

theorem dd_pad (k q m : Nat) (hq : 0 < q) (hk : 1 ≤ k) (hm : m < 10 ^ k) : Lib.decDigits (q * 10 ^ k + m) = Lib.decDigits q ++ pad k m := by
  induction k generalizing m with
  | zero => omega
  | succ k ih =>
    rw [Nat.pow_succ] at hm ⊢
    rw [dd_ge (by have : 0 < 10 ^ k := Nat.pow_pos (by omega); have : 1 * 1 ≤ q * 10 ^ k := Nat.mul_le_mul hq this; rw [← Nat.mul_assoc]; omega)]
    have e1 : (q * (10 ^ k * 10) + m) / 10 = q * 10 ^ k + m / 10 := by rw [← Nat.mul_assoc]; omega
    have e2 : (q * (10 ^ k * 10) + m) % 10 = m % 10 := by rw [← Nat.mul_assoc]; omega
    rw [e1, e2]
    rcases Nat.eq_zero_or_pos k with h0 | h0
    · subst h0
      have : m / 10 = 0 := by omega
      rw [this]
      have hm10 : m < 10 := by omega
      unfold pad
      rw [dd_lt hm10, Nat.mod_eq_of_lt hm10]
      simp
    · rw [ih (m / 10) h0 (by omega), List.append_assoc]
      congr 1
      unfold pad
      by_cases h9 : m < 10
      · have : m / 10 = 0 := by omega
        rw [this, dd_lt (n := 0) (by omega), dd_lt h9, Nat.mod_eq_of_lt h9]
        have e : k + 1 - 1 = (k - 1) + 1 := by omega
        simp only [List.length_singleton]
        rw [e, List.replicate_succ', List.append_assoc, List.append_assoc]
        rfl
      · rw [dd_ge h9, List.length_append, List.length_singleton, List.append_assoc]
        congr 2
        omega

end Go.Proofs.YtgpmmpajnfbecaaGreat

namespace Go.Proofs.YtgpmmpajnfbecaaGreat
open Go.RowKit

def ResP (z : Int) (w : World) (e : Ending) (w' : World) : Prop := ∃ r, e = .returned (.tuple #[r, .int .i64 (fite z)]) ∧ BO w' w.heap.size r (fitz z) ∧ Below w.heap.size w w'

theorem rightP_of {z : Int} (h : ab z < pw 60) : RightP (sgn z) (D (ab z)) := ⟨z, rfl, rfl, h⟩
theorem len60 {z : Int} (h : ab z < pw 60) : (D (ab z)).length ≤ 60 := (D_len_le (ab_nonneg z)).2 h
theorem ab_mul (x y : Int) : ab (x * y) = ab x * ab y := by unfold ab; rw [Int.natAbs_mul]; rfl
theorem sgn_mul (x y : Int) : sgn (x * y) = sgn x * sgn y := by
  unfold sgn
  rcases Int.lt_trichotomy x 0 with hx | hx | hx <;> rcases Int.lt_trichotomy y 0 with hy | hy | hy
  · rw [if_neg (by have := Int.mul_pos_of_neg_of_neg hx hy; omega), if_neg (by have := Int.mul_pos_of_neg_of_neg hx hy; omega), if_pos hx, if_pos hy]; rfl
  · subst hy; simp
  · rw [if_pos (Int.mul_neg_of_neg_of_pos hx hy), if_pos hx, if_neg (by omega), if_neg (by omega)]; rfl
  · subst hx; simp
  · subst hx; simp
  · subst hx; simp
  · rw [if_pos (Int.mul_neg_of_pos_of_neg hx hy), if_neg (by omega), if_neg (by omega), if_pos hy]; rfl
  · subst hy; simp
  · have := Int.mul_pos hx hy
    rw [if_neg (by omega), if_neg (by omega), if_neg (by omega), if_neg (by omega), if_neg (by omega), if_neg (by omega)]; rfl

theorem boxes2 (w : World) (a b : Array Value) : ∃ W, W = (w.alloc (.cells a 39)).alloc (.cells b 39) ∧ Below w.heap.size w W ∧ Blk W w.heap.size 39 a ∧ Blk W (w.heap.size + 1) 39 b ∧ W.heap.size = w.heap.size + 2 := by
  refine ⟨_, rfl, ((Below.refl _ _).alloc (Nat.le_refl _) _).alloc (by simp) _, (Blk.new _ _ _).alloc _, ?_, by simp⟩
  have := Blk.new (w.alloc (.cells a 39)) 39 b
  rw [World.size_alloc] at this
  exact this
theorem boxes3 (w : World) (a b c : Array Value) : ∃ W, W = ((w.alloc (.cells a 39)).alloc (.cells b 39)).alloc (.cells c 39) ∧ Below w.heap.size w W ∧ Blk W w.heap.size 39 a ∧ Blk W (w.heap.size + 1) 39 b ∧ Blk W (w.heap.size + 1 + 1) 39 c ∧ W.heap.size = w.heap.size + 3 := by
  obtain ⟨W, hW, h1, h2, h3, h4⟩ := boxes2 w a b
  rw [← hW]
  have h5 := Blk.new W 39 c
  rw [h4] at h5
  exact ⟨_, rfl, h1.alloc h1.size _, h2.alloc _, h3.alloc _, h5, by simp [h4]⟩
theorem boxes4 (w : World) (a b c d : Array Value) : ∃ W, W = (((w.alloc (.cells a 39)).alloc (.cells b 39)).alloc (.cells c 39)).alloc (.cells d 39) ∧ Below w.heap.size w W ∧ Blk W w.heap.size 39 a ∧ Blk W (w.heap.size + 1) 39 b ∧ Blk W (w.heap.size + 1 + 1) 39 c ∧ Blk W (w.heap.size + 1 + 1 + 1) 39 d ∧ W.heap.size = w.heap.size + 4 := by
  obtain ⟨W, hW, h1, h2, h3, h4, h5⟩ := boxes3 w a b c
  rw [← hW]
  have h6 := Blk.new W 39 d
  rw [h5] at h6
  exact ⟨_, rfl, h1.alloc h1.size _, h2.alloc _, h3.alloc _, h4.alloc _, h6, by simp [h5]⟩

set_option maxRecDepth 100000 in
set_option maxHeartbeats 2000000 in
theorem mul_any (x y : Int) (vx vy : Value) (w : World) (hx : BV w w.heap.size vx x) (hy : BV w w.heap.size vy y) (hx6 : ab x < pw 60) (hy6 : ab y < pw 60) :
    Calls Tryz.prog 70 #[vx, vy] w (ResP (x * y) w) := by
  obtain ⟨A1, c1, rfl, hc1, hm1, hI1⟩ := hx
  obtain ⟨A2, c2, rfl, hc2, hm2, hI2⟩ := hy
  have hl1 := len60 hx6
  have hl2 := len60 hy6
  have hr1 := fun (w' : World) (hb : Below w.heap.size w w') => right_any (sgn x) (D (ab x)) A1 c1 w' ((hI1.below hb).more hb.size) (by omega) true (by simp [rightP_of hx6])
  have hr2 := fun (w' : World) (hb : Below w.heap.size w w') => right_any (sgn y) (D (ab y)) A2 c2 w' ((hI2.below hb).more hb.size) (by omega) true (by simp [rightP_of hy6])
  have htm := fun (w' : World) (hb : Below w.heap.size w w') => times_any (D (ab x)) (D (ab y)) A1 A2 c1 c2 w' ((hI1.below hb).more hb.size) ((hI2.below hb).more hb.size) (Dig_D _) (Dig_D _) (by omega) (by omega)
  rw [nv_D (ab_nonneg _), nv_D (ab_nonneg _), ← ab_mul] at htm
  have hft := fun A c w' => fitting_any (x * y) (sgn x * sgn y) A c w' (fun _ => (sgn_mul x y).symm)
  obtain ⟨n1, hn1⟩ : ∃ n, (D (ab x)).length = n := ⟨_, rfl⟩
  obtain ⟨n2, hn2⟩ : ∃ n, (D (ab y)).length = n := ⟨_, rfl⟩
  rw [hn1] at hr1 htm hl1 ⊢
  rw [hn2] at hr2 htm hl2 ⊢
  have hs1 := sgn_bd x
  have hs2 := sgn_bd y
  obtain ⟨s1, hs1e⟩ : ∃ s, sgn x = s := ⟨_, rfl⟩
  obtain ⟨s2, hs2e⟩ : ∃ s, sgn y = s := ⟨_, rfl⟩
  rw [hs1e] at hr1 hft hs1 ⊢
  rw [hs2e] at hr2 hft hs2 ⊢
  have HR1 := Lib.hid hr1; clear hr1
  have HR2 := Lib.hid hr2; clear hr2
  have HTM := Lib.hid htm; clear htm
  have HFT := Lib.hid hft; clear hft
  clear hn1 hn2 hs1e hs2e hI1 hI2 hx6 hy6 hc1 hc2
  have hms : -1 ≤ s1 * s2 ∧ s1 * s2 ≤ 1 := by
    have a : s1 = -1 ∨ s1 = 0 ∨ s1 = 1 := by omega
    rcases a with rfl | rfl | rfl <;> omega
  go_enter Tryz.func70, Tryz.ntmps70
  go_wp2_with fail
  obtain ⟨w1, hw1, hb1, k1, k2, k3, hsz⟩ := boxes3 w #[.int .i64 s1, .slice A1 n1 c1] #[.int .i64 s2, .slice A2 n2 c2] #[.int .i64 0, .slice none 0 0]
  rw [← hw1]
  clear hw1
  refine (HR1.out w1 hb1).mono ?_
  rintro e w2 ⟨rfl, hb2⟩
  have k1 := k1.below hb2 k1.lt
  have k2 := k2.below hb2 k2.lt
  have k3 := k3.below hb2 k3.lt
  have hs2' := hb2.size
  have hb2 := hb1.trans (hb2.mono hb1.size)
  have j1 : w2.cell? ⟨w.heap.size + 1, 0, none⟩ = some (.int .i64 s2) := k2.cell 0
  have j2 : w2.cell? ⟨w.heap.size + 1, 1, none⟩ = some (.slice A2 n2 c2) := k2.cell 1
  go_wp2_with fail
  refine (HR2.out w2 hb2).mono ?_
  rintro e w3 ⟨rfl, hb3⟩
  clear j1 j2
  have k1 := k1.below hb3 k1.lt
  have k2 := k2.below hb3 k2.lt
  have k3 := k3.below hb3 k3.lt
  have hs3' := hb3.size
  have hb3 := hb2.trans (hb3.mono hb2.size)
  clear hb1 hb2 HR1 HR2
  obtain ⟨g, hg⟩ : ∃ g, w.heap.size + 1 + 1 = g := ⟨_, rfl⟩
  have hgw : w.heap.size + 1 < g ∧ g < w3.heap.size := by have := k3.lt; omega
  rw [hg] at k3 ⊢
  clear hg
  have e0 : ∀ W' : World, Below g w3 W' → W'.cell? ⟨w.heap.size, 0, none⟩ = some (.int .i64 s1) ∧ W'.cell? ⟨w.heap.size, 1, none⟩ = some (.slice A1 n1 c1) ∧ W'.cell? ⟨w.heap.size + 1, 0, none⟩ = some (.int .i64 s2) ∧ W'.cell? ⟨w.heap.size + 1, 1, none⟩ = some (.slice A2 n2 c2) ∧ Below g w3 W' := fun W' hW =>
    ⟨(k1.below hW (by omega)).cell 0, (k1.below hW (by omega)).cell 1, (k2.below hW (by omega)).cell 0, (k2.below hW (by omega)).cell 1, hW⟩
  have E0 := Lib.hid e0; clear e0
  have hwm : IntKind.i64.wrap (s1 * s2) = s1 * s2 := IntWalk.i64_in _ (by omega)
  have hB00 : Below g w3 w3.drew := (Below.refl _ _).drew
  have hB01 : Below w3.heap.size w3 w3.drew := (Below.refl _ _).drew
  go_wp2_with fail
  go_region_held3 (fun W' => W'.cell? ⟨w.heap.size, 0, none⟩ = some (.int .i64 s1) ∧ W'.cell? ⟨w.heap.size, 1, none⟩ = some (.slice A1 n1 c1) ∧ W'.cell? ⟨w.heap.size + 1, 0, none⟩ = some (.int .i64 s2) ∧ W'.cell? ⟨w.heap.size + 1, 1, none⟩ = some (.slice A2 n2 c2) ∧ Below g w3 W')
    (first | exact E0.out _ (by assumption))
    (first
      | (go_at_call 91; refine (HTM.out _ (hb3.trans (Below.mono (B := w3.heap.size) (by assumption) hb3.size))).mono ?_; rintro e w4 ⟨v4, rfl, hown4, hb4⟩; have hB4 : Below w3.heap.size w3 w4 := hB01.trans (hb4.mono (by simp)); have hB4g : Below g w3 w4 := hB4.mono (by omega); obtain ⟨A4, c4, rfl, hc4, hm4, hI4⟩ := hown4.at_)
      | (go_at_call 90; refine (HFT.out _ _ _).mono ?_; rintro e w5 ⟨r, rfl, hr, hb5⟩; have HR := Lib.hid hr; obtain ⟨s', A', n', c', rfl⟩ := hr.form; clear hr; have hB5 : Below w3.heap.size w3 w5 := hB4.trans (hb5.mono hB4.size); have hB5g : Below g w3 w5 := hB5.mono (by omega); have hbk := k3.below hB5 (by omega); have q0 : w5.cell? ⟨g, 0, none⟩ = some (.int .i64 0) := hbk.cell 0; have q1 : w5.cell? ⟨g, 1, none⟩ = some (.slice none 0 0) := hbk.cell 1; have f0 := hbk.frozen 0; have f1 := hbk.frozen 1; have hB6 := (hB5g.setCell (p := ⟨g, 0, none⟩) (Nat.le_refl _) (.int .i64 s')).setCell (p := ⟨g, 1, none⟩) (Nat.le_refl _) (.slice A' n' c')))
  go_goals
  have hbs := hbk.set2 (.int .i64 s') (.slice A' n' c')
  have hd0 := hbs.cell 0
  have hd1 := hbs.cell 1
  simp at hd0 hd1
  go_wp2_with fail
  refine bodyPost_ret (v := .tuple #[.agg #[.int .i64 s', .slice A' n' c'], .int .i64 (fite (x * y))]) (by simp [results, Tryz.results70, go_sem, hd0, hd1]) rfl ?_
  have hof := (hown4.below hb5).far2 (g := g) (by simp; omega) (.int .i64 s') (.slice A' n' c')
  exact ⟨_, rfl, HR.out.fito (hof.mono (by have := hb3.size; first | omega | (simp; omega))), hb3.trans (hB6.mono (by omega))⟩

end Go.Proofs.YtgpmmpajnfbecaaGreat

namespace Go.Proofs.YtgpmmpajnfbecaaGreat
open Go.RowKit Go.Joins

end Go.Proofs.YtgpmmpajnfbecaaGreat
