/- Plain: decimal digits: what is read of them, and how they are cut into pieces. No program. -/
import Derived.Test.YtofndidngjglmaaDoorS
import Derived.Lib.ItoaNum
import Derived.Lib.Atoi
namespace Go.Proofs.YtofndidngjglmaaDoor
open Go.RowKit

theorem dd_lt {n : Nat} (h : n < 10) : Lib.decDigits n = [UInt8.ofNat (48 + n)] := Lib.decDigits_one h
theorem dd_ge {n : Nat} (h : ¬ n < 10) : Lib.decDigits n = Lib.decDigits (n / 10) ++ [UInt8.ofNat (48 + n % 10)] := by
  rw [Lib.decDigits, dif_neg h]

def isD (b : UInt8) : Prop := 48 ≤ b.toNat ∧ b.toNat ≤ 57
def allD (l : List UInt8) : Prop := ∀ b ∈ l, isD b
/-- What decimal digits spell. -/
def dv (l : List UInt8) : Nat := l.foldl (fun a b => a * 10 + (b.toNat - 48)) 0
theorem dv_foldl (l : List UInt8) (a : Nat) : l.foldl (fun a b => a * 10 + (b.toNat - 48)) a = a * 10 ^ l.length + dv l := by
  induction l generalizing a with
  | nil => simp [dv]
  | cons b l ih =>
    unfold dv
    simp only [List.foldl_cons, List.length_cons]
    rw [ih, ih (0 * 10 + (b.toNat - 48)), Nat.pow_succ, Nat.zero_mul, Nat.zero_add, Nat.add_mul, Nat.mul_assoc, Nat.mul_comm 10, Nat.add_assoc]
theorem dv_append (a b : List UInt8) : dv (a ++ b) = dv a * 10 ^ b.length + dv b := by
  unfold dv
  rw [List.foldl_append, dv_foldl]
  rfl
theorem dv_one (c : UInt8) : dv [c] = c.toNat - 48 := by show 0 * 10 + (c.toNat - 48) = _; omega
theorem dv_snoc (a : List UInt8) (c : UInt8) : dv (a ++ [c]) = dv a * 10 + (c.toNat - 48) := by
  rw [dv_append, dv_one, List.length_singleton, Nat.pow_one]
theorem dv_cons (b : UInt8) (l : List UInt8) : dv (b :: l) = (b.toNat - 48) * 10 ^ l.length + dv l := by
  have := dv_append [b] l
  rw [dv_one] at this
  exact this
theorem dv_lt {l : List UInt8} (h : allD l) : dv l < 10 ^ l.length := by
  induction l with
  | nil => decide
  | cons b l ih =>
    have h1 := ih (fun c hc => h c (List.mem_cons_of_mem _ hc))
    have h2 := h b (List.mem_cons_self ..)
    unfold isD at h2
    rw [dv_cons, List.length_cons, Nat.pow_succ]
    have h3 : (b.toNat - 48) * 10 ^ l.length ≤ 9 * 10 ^ l.length := Nat.mul_le_mul_right _ (by omega)
    omega

theorem ofNat_toNat {n : Nat} (h : n < 10) : (UInt8.ofNat (48 + n)).toNat = 48 + n := by
  rw [UInt8.toNat_ofNat']; omega
theorem isD_ofNat {n : Nat} (h : n < 10) : isD (UInt8.ofNat (48 + n)) := by unfold isD; rw [ofNat_toNat h]; omega

theorem dd_all (n : Nat) : allD (Lib.decDigits n) := by
  induction n using Nat.strongRecOn with
  | _ n ih =>
    by_cases h : n < 10
    · rw [dd_lt h]; intro b hb; rw [List.mem_singleton] at hb; subst hb; exact isD_ofNat h
    · rw [dd_ge h]; intro b hb
      rcases List.mem_append.1 hb with h1 | h1
      · exact ih _ (by omega) b h1
      · rw [List.mem_singleton] at h1; subst h1; exact isD_ofNat (by omega)
theorem dd_ne (n : Nat) : Lib.decDigits n ≠ [] := by
  by_cases h : n < 10
  · rw [dd_lt h]; simp
  · rw [dd_ge h]; simp
theorem dv_dd (n : Nat) : dv (Lib.decDigits n) = n := by
  induction n using Nat.strongRecOn with
  | _ n ih =>
    by_cases h : n < 10
    · rw [dd_lt h]; show 0 * 10 + ((UInt8.ofNat (48 + n)).toNat - 48) = n; rw [ofNat_toNat h]; omega
    · rw [dd_ge h, dv_snoc, ih _ (by omega), ofNat_toNat (by omega)]; omega
/-- No zero leads, but that of 0 itself. -/
theorem dd_head (n : Nat) : Lib.decDigits n = [48] ∨ (Lib.decDigits n).head? ≠ some 48 := by
  induction n using Nat.strongRecOn with
  | _ n ih =>
    by_cases h : n < 10
    · rw [dd_lt h]
      by_cases h0 : n = 0
      · subst h0; exact .inl rfl
      · refine .inr (fun e => ?_)
        have e := Option.some.inj e
        have h1 := ofNat_toNat h
        rw [e] at h1
        have h2 : (48 : UInt8).toNat = 48 := rfl
        omega
    · rw [dd_ge h]
      right
      obtain ⟨c, r, hr⟩ : ∃ c r, Lib.decDigits (n / 10) = c :: r := by
        cases hd : Lib.decDigits (n / 10) with
        | nil => exact absurd hd (dd_ne _)
        | cons c r => exact ⟨c, r, rfl⟩
      rcases ih (n / 10) (by omega) with h1 | h1
      · have h2 := dv_dd (n / 10)
        rw [h1] at h2
        have h3 : dv [48] = 0 := rfl
        omega
      · rw [hr] at h1 ⊢
        simpa using h1

theorem u8_eq {b : UInt8} (h : isD b) : b = UInt8.ofNat (48 + (b.toNat - 48)) := by
  apply UInt8.toNat_inj.1
  unfold isD at h
  rw [ofNat_toNat (by omega)]; omega

theorem dd_of {l : List UInt8} (h : allD l) (hne : l ≠ []) (hh : l = [48] ∨ l.head? ≠ some 48) : Lib.decDigits (dv l) = l := by
  have key : ∀ n (l : List UInt8), l.length = n → allD l → l ≠ [] → (l = [48] ∨ l.head? ≠ some 48) → Lib.decDigits (dv l) = l := by
    intro n
    induction n with
    | zero => intro l hl _ hne; exact absurd (List.eq_nil_of_length_eq_zero hl) hne
    | succ n ih =>
      intro l hl h hne hh
      obtain ⟨a, c, rfl⟩ : ∃ a c, l = a ++ [c] := by
        refine ⟨l.dropLast, l.getLast hne, (List.dropLast_concat_getLast hne).symm⟩
      have hc := h c (by simp)
      have hc2 := u8_eq hc
      unfold isD at hc
      have ha : allD a := fun b hb => h b (by simp [hb])
      rcases List.eq_nil_or_concat a with rfl | ⟨a', d, rfl⟩
      · rw [List.nil_append]
        have : dv [c] = c.toNat - 48 := by show 0 * 10 + (c.toNat - 48) = _; omega
        rw [this, dd_lt (by omega), ← hc2]
      · rw [List.concat_eq_append] at *
        have hane : a' ++ [d] ≠ [] := by simp
        have hih := ih (a' ++ [d]) (by simp at hl ⊢; omega) ha hane (by
          rcases hh with hh | hh
          · have := congrArg List.length hh; simp at this
          · right
            intro e
            apply hh
            rw [List.head?_append, e]; rfl)
        have hpos : 0 < dv (a' ++ [d]) := by
          rcases Nat.eq_zero_or_pos (dv (a' ++ [d])) with h0 | h0
          · rw [h0, dd_lt (by omega)] at hih
            exfalso
            rcases hh with hh | hh
            · have := congrArg List.length hh; simp at this
            · apply hh
              rw [← hih]; rfl
          · exact h0
        rw [dv_snoc, dd_ge (by omega)]
        have e1 : (dv (a' ++ [d]) * 10 + (c.toNat - 48)) / 10 = dv (a' ++ [d]) := by omega
        have e2 : (dv (a' ++ [d]) * 10 + (c.toNat - 48)) % 10 = c.toNat - 48 := by omega
        rw [e1, e2, hih, ← hc2]
  exact key _ l rfl h hne hh

/-- A number below 10^k with zeros ahead of it. -/
def pad (k m : Nat) : List UInt8 := List.replicate (k - (Lib.decDigits m).length) 48 ++ Lib.decDigits m

theorem dd_len_le {m k : Nat} (hk : 1 ≤ k) (h : m < 10 ^ k) : (Lib.decDigits m).length ≤ k := by
  induction k generalizing m with
  | zero => omega
  | succ k ih =>
    by_cases h9 : m < 10
    · rw [dd_lt h9]; simp
    · rw [dd_ge h9, List.length_append, List.length_singleton]
      rcases Nat.eq_zero_or_pos k with h0 | h0
      · subst h0; omega
      · have := ih h0 (m := m / 10) (by rw [Nat.pow_succ] at h; omega)
        omega
theorem dd_pad (k q m : Nat) (hq : 0 < q) (hk : 1 ≤ k) (hm : m < 10 ^ k) : Lib.decDigits (q * 10 ^ k + m) = Lib.decDigits q ++ pad k m := by
  induction k generalizing m with
  | zero => omega
  | succ k ih =>
    rw [Nat.pow_succ] at hm ⊢
    rw [dd_ge (by have : 0 < 10 ^ k := Nat.pow_pos (by omega); have : 1 * 1 ≤ q * 10 ^ k := Nat.mul_le_mul hq this; rw [← Nat.mul_assoc]; omega)]
    have e1 : (q * (10 ^ k * 10) + m) / 10 = q * 10 ^ k + m / 10 := by rw [← Nat.mul_assoc]; omega
    have e2 : (q * (10 ^ k * 10) + m) % 10 = m % 10 := by rw [← Nat.mul_assoc]; omega
    rw [e1, e2]
    rcases Nat.eq_zero_or_pos k with h0 | h0
    · subst h0
      have : m / 10 = 0 := by omega
      rw [this]
      have hm10 : m < 10 := by omega
      unfold pad
      rw [dd_lt hm10, Nat.mod_eq_of_lt hm10]
      simp
    · rw [ih (m / 10) h0 (by omega), List.append_assoc]
      congr 1
      unfold pad
      by_cases h9 : m < 10
      · have : m / 10 = 0 := by omega
        rw [this, dd_lt (n := 0) (by omega), dd_lt h9, Nat.mod_eq_of_lt h9]
        have e : k + 1 - 1 = (k - 1) + 1 := by omega
        simp only [List.length_singleton]
        rw [e, List.replicate_succ', List.append_assoc, List.append_assoc]
        rfl
      · rw [dd_ge h9, List.length_append, List.length_singleton, List.append_assoc]
        congr 2
        omega

end Go.Proofs.YtofndidngjglmaaDoor
