/- Plain: the prime field of 2147483647: congruence, the prime, Fermat's theorem. -/
namespace Go.Proofs.Ytfipogmndokhkaa

def noDiv (lo : Nat) : Nat → Bool
  | 0 => 2147483647 % lo != 0
  | k + 1 => noDiv lo k && noDiv (lo + 2 ^ k) k

theorem noDiv_ok : ∀ (k lo : Nat), noDiv lo k = true → ∀ d, lo ≤ d → d < lo + 2 ^ k → 2147483647 % d ≠ 0
  | 0, lo, h, d, h1, h2 => by
    have : d = lo := by simp at h2; omega
    subst this
    simpa [noDiv] using h
  | k + 1, lo, h, d, h1, h2 => by
    rw [noDiv, Bool.and_eq_true] at h
    rcases Nat.lt_or_ge d (lo + 2 ^ k) with h3 | h3
    · exact noDiv_ok k lo h.1 d h1 h3
    · exact noDiv_ok k _ h.2 d h3 (by rw [Nat.pow_succ] at h2; omega)

theorem noDiv_all : noDiv 2 16 = true := by decide +kernel

theorem pr_irr (d : Nat) (h : d ∣ 2147483647) : d = 1 ∨ d = 2147483647 := by
  obtain ⟨e, he⟩ := h
  have hd0 : d ≠ 0 := by rintro rfl; omega
  have he0 : e ≠ 0 := by rintro rfl; omega
  by_cases h1 : d = 1
  · exact .inl h1
  by_cases h2 : e = 1
  · right; rw [h2] at he; omega
  exfalso
  have key : ∀ a b : Nat, 2147483647 = a * b → 2 ≤ a → a ≤ 46341 → False := fun a b hab h3 h4 =>
    noDiv_ok 16 2 noDiv_all a h3 (by omega) (by rw [hab]; exact Nat.mul_mod_right a b)
  rcases Nat.lt_or_ge 46341 d with h3 | h3
  · rcases Nat.lt_or_ge 46341 e with h4 | h4
    · have : 46341 * 46341 ≤ d * e := Nat.mul_le_mul (by omega) (by omega)
      omega
    · exact key e d (by rw [Nat.mul_comm]; exact he) (by omega) h4
  · exact key d e he (by omega) h3

theorem pr_nat {a b : Nat} (h : 2147483647 ∣ a * b) : 2147483647 ∣ a ∨ 2147483647 ∣ b := by
  rcases pr_irr _ (Nat.gcd_dvd_left 2147483647 a) with h1 | h1
  · exact .inr (Nat.Coprime.dvd_of_dvd_mul_left h1 h)
  · left
    have := Nat.gcd_dvd_right 2147483647 a
    rwa [h1] at this

/-- Congruence. -/
def Cg (a b : Int) : Prop := (2147483647 : Int) ∣ a - b

theorem Cg.refl (a : Int) : Cg a a := ⟨0, by omega⟩
theorem Cg.of_eq {a b : Int} (h : a = b) : Cg a b := h ▸ Cg.refl a
theorem Cg.symm {a b : Int} (h : Cg a b) : Cg b a := by obtain ⟨t, h⟩ := h; exact ⟨-t, by omega⟩
theorem Cg.trans {a b c : Int} (h : Cg a b) (h' : Cg b c) : Cg a c := by obtain ⟨t, h⟩ := h; obtain ⟨s, h'⟩ := h'; exact ⟨t + s, by omega⟩
theorem Cg.add {a b c d : Int} (h : Cg a b) (h' : Cg c d) : Cg (a + c) (b + d) := by obtain ⟨t, h⟩ := h; obtain ⟨s, h'⟩ := h'; exact ⟨t + s, by omega⟩
theorem Cg.sub {a b c d : Int} (h : Cg a b) (h' : Cg c d) : Cg (a - c) (b - d) := by obtain ⟨t, h⟩ := h; obtain ⟨s, h'⟩ := h'; exact ⟨t - s, by omega⟩
theorem Cg.mul {a b c d : Int} (h : Cg a b) (h' : Cg c d) : Cg (a * c) (b * d) := by
  obtain ⟨t, h⟩ := h; obtain ⟨s, h'⟩ := h'
  refine ⟨t * c + b * s, ?_⟩
  have e1 : a = b + 2147483647 * t := by omega
  have e2 : c = d + 2147483647 * s := by omega
  subst e1 e2
  grind
theorem Cg.mod (a : Int) : Cg (a % 2147483647) a := ⟨-(a / 2147483647), by omega⟩
theorem Cg.lt {a : Int} (h0 : 0 ≤ a) (h1 : a < 2147483647) (h : Cg a 0) : a = 0 := by obtain ⟨t, h⟩ := h; omega
theorem Cg.eq {a b : Int} (h0 : 0 ≤ a) (h1 : a < 2147483647) (h2 : 0 ≤ b) (h3 : b < 2147483647) (h : Cg a b) : a = b := by obtain ⟨t, h⟩ := h; omega
theorem Cg.emod {a b : Int} (h : Cg a b) : a % 2147483647 = b % 2147483647 := by obtain ⟨t, h⟩ := h; omega
theorem Cg.of_emod {a b : Int} (h : a % 2147483647 = b % 2147483647) : Cg a b := ⟨a / 2147483647 - b / 2147483647, by omega⟩
theorem Cg.sub0 {a b : Int} : Cg (a - b) 0 ↔ Cg a b := by unfold Cg; rw [Int.sub_zero]
theorem Cg.prime {a b : Int} (h : Cg (a * b) 0) : Cg a 0 ∨ Cg b 0 := by
  unfold Cg at h ⊢
  rw [Int.sub_zero] at h ⊢
  rw [Int.sub_zero]
  have h1 := Int.natAbs_dvd_natAbs.2 h
  rw [Int.natAbs_mul] at h1
  rcases pr_nat h1 with h2 | h2
  · exact .inl (Int.natAbs_dvd_natAbs.1 h2)
  · exact .inr (Int.natAbs_dvd_natAbs.1 h2)
theorem Cg.cancel {a b c : Int} (h : Cg (a * b) (a * c)) (ha : ¬ Cg a 0) : Cg b c := by
  rw [← Cg.sub0, ← Int.mul_sub] at h
  rcases Cg.prime h with h | h
  · exact absurd h ha
  · exact Cg.sub0.1 h
theorem Cg.ne {a b : Int} (h : ¬ Cg a 0) (h' : ¬ Cg b 0) : ¬ Cg (a * b) 0 := fun h1 => (Cg.prime h1).elim h h'
theorem Cg.pow {a b : Int} (h : Cg a b) : ∀ n : Nat, Cg (a ^ n) (b ^ n)
  | 0 => by rw [Int.pow_zero, Int.pow_zero]; exact Cg.refl 1
  | n + 1 => by rw [Int.pow_succ, Int.pow_succ]; exact (Cg.pow h n).mul h
theorem Cg.one : ¬ Cg 1 0 := fun ⟨t, h⟩ => by omega

/-- Binomial numbers. -/
def ch : Nat → Nat → Nat
  | _, 0 => 1
  | 0, _ + 1 => 0
  | n + 1, k + 1 => ch n k + ch n (k + 1)

theorem ch_zero (n : Nat) : ch n 0 = 1 := by cases n <;> rfl
theorem ch_big : ∀ n k : Nat, n < k → ch n k = 0
  | _, 0, h => by omega
  | 0, k + 1, _ => rfl
  | n + 1, k + 1, h => by rw [ch, ch_big n k (by omega), ch_big n (k + 1) (by omega)]
theorem ch_self : ∀ n : Nat, ch n n = 1
  | 0 => rfl
  | n + 1 => by rw [ch, ch_self n, ch_big n (n + 1) (by omega)]
theorem ch_mul : ∀ n k : Nat, (k + 1) * ch (n + 1) (k + 1) = (n + 1) * ch n k
  | 0, 0 => rfl
  | 0, k + 1 => by rw [ch_big (0 + 1) (k + 1 + 1) (by omega), ch_big 0 (k + 1) (by omega)]; simp
  | n + 1, 0 => by
    have h := ch_mul n 0
    rw [ch_zero] at h ⊢
    rw [ch, ch_zero]
    omega
  | n + 1, k + 1 => by
    have h1 := ch_mul n k
    have h2 := ch_mul n (k + 1)
    have e1 : ch (n + 1 + 1) (k + 1 + 1) = ch (n + 1) (k + 1) + ch (n + 1) (k + 1 + 1) := rfl
    have e2 : ch (n + 1) (k + 1) = ch n k + ch n (k + 1) := rfl
    rw [e1]
    generalize ch (n + 1) (k + 1 + 1) = z at *
    generalize ch n (k + 1) = y at *
    generalize ch n k = x at *
    generalize ch (n + 1) (k + 1) = u at *
    subst e2
    grind
/-- The first members of the binomial sum. -/
def bin (n : Nat) (x : Int) : Nat → Int
  | 0 => 1
  | m + 1 => bin n x m + (ch n (m + 1) : Int) * x ^ (m + 1)
theorem bin_succ (n : Nat) (x : Int) : ∀ m : Nat, bin (n + 1) x (m + 1) = bin n x (m + 1) + x * bin n x m
  | 0 => by
    simp only [bin, ch, ch_zero, Int.pow_succ, Int.pow_zero]
    push_cast
    grind
  | m + 1 => by
    have h := bin_succ n x m
    rw [bin, h, show bin n x (m + 1 + 1) = bin n x (m + 1) + (ch n (m + 1 + 1) : Int) * x ^ (m + 1 + 1) from rfl]
    have e : ((ch (n + 1) (m + 1 + 1) : Nat) : Int) = (ch n (m + 1) : Int) + (ch n (m + 1 + 1) : Int) := by
      rw [show ch (n + 1) (m + 1 + 1) = ch n (m + 1) + ch n (m + 1 + 1) from rfl]; push_cast; rfl
    rw [e]
    have e2 : bin n x (m + 1) = bin n x m + (ch n (m + 1) : Int) * x ^ (m + 1) := rfl
    rw [Int.pow_succ x (m + 1)]
    generalize x ^ (m + 1) = y at *
    generalize bin n x (m + 1) = u at *
    subst e2
    grind
theorem binom (x : Int) : ∀ n : Nat, (1 + x) ^ n = bin n x n
  | 0 => by rw [Int.pow_zero, bin]
  | n + 1 => by
    rw [bin_succ, Int.pow_succ, binom x n, bin, ch_big n (n + 1) (by omega)]
    push_cast
    grind
theorem ch_pr (n k : Nat) (hn : n + 1 = 2147483647) (h : k + 1 < 2147483647) : 2147483647 ∣ ch (n + 1) (k + 1) := by
  have h1 := ch_mul n k
  have h2 : 2147483647 ∣ (k + 1) * ch (n + 1) (k + 1) := by rw [h1, hn]; exact Nat.dvd_mul_right _ _
  rcases pr_nat h2 with h3 | h3
  · have := Nat.le_of_dvd (by omega) h3
    omega
  · exact h3
theorem bin_pr (x : Int) (n : Nat) (hn : n + 1 = 2147483647) : ∀ m : Nat, m < 2147483647 → Cg (bin (n + 1) x m) 1
  | 0, _ => Cg.refl 1
  | m + 1, h => by
    rw [bin]
    have h1 : Cg ((ch (n + 1) (m + 1) : Nat) : Int) 0 := by
      obtain ⟨t, ht⟩ := ch_pr n m hn h
      exact ⟨t, by rw [ht, Int.sub_zero, Int.natCast_mul]; rfl⟩
    have h2 := (bin_pr x n hn m (by omega)).add (h1.mul (Cg.refl (x ^ (m + 1))))
    rw [Int.zero_mul, Int.add_zero] at h2
    exact h2
theorem frob (x : Int) (n : Nat) (hn : n + 1 = 2147483647) : Cg ((1 + x) ^ (n + 1)) (1 + x ^ (n + 1)) := by
  rw [binom, bin, ch_self]
  have h := (bin_pr x n hn n (by omega)).add (Cg.refl (x ^ (n + 1)))
  simpa using h
theorem fermat_nat (n : Nat) (hn : n + 1 = 2147483647) : ∀ a : Nat, Cg ((a : Int) ^ (n + 1)) a
  | 0 => by rw [Int.pow_succ]; simp; exact Cg.refl 0
  | a + 1 => by
    have h := (frob a n hn).trans ((Cg.refl 1).add (fermat_nat n hn a))
    rw [show ((a + 1 : Nat) : Int) = 1 + (a : Int) by omega]
    exact h
/-- Fermat's theorem, as inverses. -/
theorem fermat (n : Nat) (hn : n + 2 = 2147483647) (a : Int) (h0 : 0 ≤ a) (ha : ¬ Cg a 0) : Cg (a * a ^ n) 1 := by
  have h := fermat_nat (n + 1) hn a.toNat
  rw [Int.toNat_of_nonneg h0, Int.pow_succ, Int.pow_succ] at h
  have h1 : Cg (a * (a * a ^ n)) (a * 1) := by
    rw [Int.mul_one]
    refine Cg.trans (Cg.of_eq ?_) h
    grind
  exact h1.cancel ha

end Go.Proofs.Ytfipogmndokhkaa
