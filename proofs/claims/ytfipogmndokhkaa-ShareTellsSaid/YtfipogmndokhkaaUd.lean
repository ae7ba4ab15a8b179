/- Walks: both inverses. -/
import Derived.Test.YtfipogmndokhkaaUc
namespace Go.Proofs.Ytfipogmndokhkaa
open Go.RowKit

theorem mulb {a b : Int} (h0 : 0 ≤ a) (h1 : a < 2147483647) (h2 : 0 ≤ b) (h3 : b < 2147483647) : 0 ≤ a * b ∧ a * b ≤ 4611686009837453316 := by
  refine ⟨Int.mul_nonneg h0 h2, ?_⟩
  have h4 : a * b ≤ 2147483646 * b := Int.mul_le_mul_of_nonneg_right (by omega) h2
  omega
theorem sqp (c : Int) : ∀ h : Nat, c ^ (2 * h) = (c * c) ^ h
  | 0 => by simp [Int.pow_zero]
  | h + 1 => by
    rw [show 2 * (h + 1) = 2 * h + 1 + 1 by omega, Int.pow_succ, Int.pow_succ, Int.pow_succ, sqp c h, Int.mul_assoc]
theorem pow_odd {r c t : Int} {q : Nat} (h : Cg (r * c ^ q) t) (hq : q % 2 = 1) : Cg (r * c % 2147483647 * (c * c % 2147483647) ^ (q / 2)) t := by
  refine Cg.trans ((Cg.mod (r * c)).mul ((Cg.mod (c * c)).pow (q / 2))) (Cg.trans (Cg.of_eq ?_) h)
  rw [← sqp]
  have e : c ^ q = c ^ (2 * (q / 2)) * c := by rw [← Int.pow_succ]; congr 1; omega
  rw [e]
  grind
theorem pow_even {r c t : Int} {q : Nat} (h : Cg (r * c ^ q) t) (hq : q % 2 = 0) : Cg (r * (c * c % 2147483647) ^ (q / 2)) t := by
  refine Cg.trans ((Cg.refl r).mul ((Cg.mod (c * c)).pow (q / 2))) (Cg.trans (Cg.of_eq ?_) h)
  rw [← sqp, show 2 * (q / 2) = q by omega]

set_option maxRecDepth 100000 in
set_option maxHeartbeats 2000000 in
theorem inverse_any (a : Int) (w : World) (h0 : 0 ≤ a) (h1 : a < 2147483647) :
    Calls Try.prog 29 #[.int .i64 a] w fun e w' => ∃ z, e = .returned (.int .i64 z) ∧ 0 ≤ z ∧ z < 2147483647 ∧ Hid (¬ Cg a 0 → Cg (a * z) 1) ∧ w = w' := by
  obtain ⟨E, hE⟩ : ∃ E : Nat, (2147483645 : Int) = (E : Int) := ⟨2147483645, rfl⟩
  have HE := Lib.hid hE; clear hE
  go_enter Try.func29, Try.ntmps29
  go_wp2_with fail
  go_loop [0, 3, 4] (fun cv rv qv => ∃ (c r : Int) (q : Nat), cv = .int .i64 c ∧ rv = .int .i64 r ∧ qv = .int .i64 (q : Int) ∧ 0 ≤ c ∧ c < 2147483647 ∧ 0 ≤ r ∧ r < 2147483647 ∧ q ≤ 2147483645 ∧ Hid (Cg (r * c ^ q) (a ^ E))) (fun _ _ qv => (intOf qv).toNat)
  case atStart => exact ⟨a, 1, E, rfl, rfl, by rw [HE.out], h0, h1, by omega, by omega, by have := HE.out; omega, Lib.hid (by rw [Int.one_mul]; exact Cg.refl _)⟩
  case round =>
    obtain ⟨c, r, q, rfl, rfl, rfl, hc0, hc1, hr0, hr1, hq, hv⟩ := hrel
    by_cases hgo : 0 < q
    · have hcc := mulb hc0 hc1 hc0 hc1
      have hrc := mulb hr0 hr1 hc0 hc1
      obtain ⟨hcc0, hcc1⟩ := hcc
      obtain ⟨hrc0, hrc1⟩ := hrc
      have hdn : ((q : Int) / 2) = ((q / 2 : Nat) : Int) := by omega
      have hmn : ((q : Int) % 2) = ((q % 2 : Nat) : Int) := by omega
      obtain ⟨Q, hQ⟩ : ∃ Q, q / 2 = Q := ⟨_, rfl⟩
      have hQq : Q < q := by omega
      rw [hQ] at hdn
      by_cases ho : q % 2 = 1
      · have hs := pow_odd hv.out ho
        rw [hQ] at hs
        have hs' := Lib.hid hs; clear hs
        rw [ho] at hmn
        have hmn' : (q : Int) % 2 = 1 := hmn
        clear hmn hQ ho
        go_wp2_with fail
        go_round
        case rel => exact ⟨_, _, Q, rfl, rfl, rfl, by omega, by omega, by omega, by omega, by omega, hs'⟩
        case measure => simp [intOf]; omega
      · have ho' : q % 2 = 0 := by omega
        have hs := pow_even hv.out ho'
        rw [hQ] at hs
        have hs' := Lib.hid hs; clear hs
        rw [ho'] at hmn
        have hmn' : (q : Int) % 2 = 0 := hmn
        clear hmn hQ ho ho'
        go_wp2_with fail
        go_round
        case rel => exact ⟨_, _, Q, rfl, rfl, rfl, by omega, by omega, by omega, by omega, by omega, hs'⟩
        case measure => simp [intOf]; omega
    · have : q = 0 := by omega
      subst this
      go_wp2_with fail
      go_ret
      refine ⟨_, rfl, hr0, hr1, Lib.hid fun hn => ?_, rfl⟩
      have h2 := hv.out
      rw [Int.pow_zero, Int.mul_one] at h2
      exact ((Cg.refl a).mul h2).trans (fermat E (by have := HE.out; omega) a h0 hn)

/-- A step of Euclid's algorithm. -/
theorem eu_step {a b x y n q z : Int} (hx : Cg (x * n) a) (hy : Cg (y * n) b) (hz : z = (x - q * y % 2147483647) % 2147483647) : Cg (z * n) (a - q * b) := by
  rw [hz]
  have h1 : Cg ((x - q * y % 2147483647) % 2147483647) (x - q * y) := (Cg.mod _).trans ((Cg.refl x).sub (Cg.mod _))
  refine (h1.mul (Cg.refl n)).trans (Cg.trans (Cg.of_eq ?_) (hx.sub ((Cg.refl q).mul hy)))
  grind
theorem eu_end {a x n : Int} (ha : 0 < a) (hG : a ∣ 2147483647 ∧ a ∣ n) (hx : Cg (x * n) a) (hn : ¬ Cg n 0) : Cg (n * x) 1 := by
  have h1 : a.natAbs ∣ 2147483647 := Int.natAbs_dvd_natAbs.2 hG.1
  rcases pr_irr _ h1 with h2 | h2
  · have : a = 1 := by omega
    subst this
    rw [Int.mul_comm]
    exact hx
  · have : a = 2147483647 := by omega
    subst this
    exact absurd (Cg.of_emod (by obtain ⟨t, ht⟩ := hG.2; omega)) hn

set_option maxRecDepth 100000 in
set_option maxHeartbeats 2000000 in
theorem rinverse_any (n : Int) (w : World) (h0 : 0 ≤ n) (h1 : n < 2147483647) :
    Calls Try.prog 32 #[.int .i64 n] w fun e w' => ∃ z, e = .returned (.int .i64 z) ∧ 0 ≤ z ∧ z < 2147483647 ∧ Hid (¬ Cg n 0 → Cg (n * z) 1) ∧ w = w' := by
  go_enter Try.func32, Try.ntmps32
  go_wp2_with fail
  go_loop [3, 4, 5, 6] (fun av bv xv yv => ∃ a b x y : Int, av = .int .i64 a ∧ bv = .int .i64 b ∧ xv = .int .i64 x ∧ yv = .int .i64 y ∧ 0 < a ∧ a ≤ 2147483647 ∧ 0 ≤ b ∧ b < 2147483647 ∧ 0 ≤ x ∧ x < 2147483647 ∧ 0 ≤ y ∧ y < 2147483647 ∧
    Hid (Cg (x * n) a ∧ Cg (y * n) b ∧ ∀ d : Int, d ∣ a → d ∣ b → d ∣ 2147483647 ∧ d ∣ n)) (fun _ bv _ _ => (intOf bv).toNat)
  case atStart => exact ⟨2147483647, n, 0, 1, rfl, rfl, rfl, rfl, by omega, by omega, h0, h1, by omega, by omega, by omega, by omega, Lib.hid ⟨⟨-1, by omega⟩, Cg.of_eq (Int.one_mul n), fun d h h' => ⟨h, h'⟩⟩⟩
  case round =>
    obtain ⟨a, b, x, y, rfl, rfl, rfl, rfl, ha0, ha1, hb0, hb1, hx0, hx1, hy0, hy1, hv⟩ := hrel
    by_cases hgo : 0 < b
    · obtain ⟨q, hq⟩ : ∃ q, a / b = q := ⟨_, rfl⟩
      obtain ⟨r, hr⟩ : ∃ r, a % b = r := ⟨_, rfl⟩
      have hdm : b * (a / b) + a % b = a := Int.mul_ediv_add_emod a b
      have hr0 := Int.emod_nonneg a (show b ≠ 0 by omega)
      have hr1 := Int.emod_lt_of_pos a hgo
      have hq0 : 0 ≤ a / b := Int.ediv_nonneg (by omega) hb0
      have hq1 : a / b ≤ a := Int.ediv_le_self b (by omega)
      rw [hr] at hr0 hr1 hdm
      rw [hq] at hq0 hq1 hdm
      rw [Int.mul_comm] at hdm
      have hqy0 : 0 ≤ q * y := Int.mul_nonneg hq0 hy0
      have hqy1 : q * y ≤ 2147483647 * 2147483647 := Int.mul_le_mul (by omega) (by omega) hy0 (by omega)
      have hqb : q * b = a - r := by omega
      obtain ⟨z, hz⟩ : ∃ z, (x - q * y % 2147483647) % 2147483647 = z := ⟨_, rfl⟩
      have hz0 : 0 ≤ z ∧ z < 2147483647 := by omega
      obtain ⟨hz0, hz1⟩ := hz0
      have hst := eu_step hv.out.1 hv.out.2.1 hz.symm
      rw [hqb, show a - (a - r) = r by omega] at hst
      have hv' : Hid (Cg (y * n) b ∧ Cg (z * n) r ∧ ∀ d : Int, d ∣ b → d ∣ r → d ∣ 2147483647 ∧ d ∣ n) := Lib.hid ⟨hv.out.2.1, hst, fun d h h' => hv.out.2.2 d (by
        rw [← hdm]
        exact Int.dvd_add (Int.dvd_trans h (Int.dvd_mul_left q b)) h') h⟩
      have HZ := Lib.hid hz
      clear hst hr hdm hv
      have hqb0 : 0 ≤ q * b := Int.mul_nonneg hq0 hb0
      have hqb1 : q * b ≤ a := by omega
      have hsub : a - q * b = r := by omega
      obtain ⟨X, hX⟩ : ∃ X, q * y % 2147483647 = X := ⟨_, rfl⟩
      have hX0 : 0 ≤ X ∧ X < 2147483647 := by omega
      obtain ⟨hX0, hX1⟩ := hX0
      rw [hX] at hz
      go_wp2_with fail
      refine (mod_any _ _).mono ?_
      rintro e w1 ⟨rfl, rfl⟩
      go_wp2_with fail
      go_round
      case rel => exact ⟨b, r, y, z, rfl, by congr 1; omega, rfl, rfl, by omega, by omega, by omega, by omega, hy0, hy1, hz0, hz1, hv'⟩
      case measure => simp [intOf]; omega
    · have : b = 0 := by omega
      subst this
      go_wp2_with fail
      go_ret
      exact ⟨_, rfl, hx0, hx1, Lib.hid fun hn => eu_end ha0 (hv.out.2.2 a (Int.dvd_refl a) (Int.dvd_zero a)) hv.out.1 hn, rfl⟩

end Go.Proofs.Ytfipogmndokhkaa
