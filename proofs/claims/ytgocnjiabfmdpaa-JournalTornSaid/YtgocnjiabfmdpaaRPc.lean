/- Plain: values read one after the other. -/
import Derived.Test.YtgocnjiabfmdpaaRPb
namespace Go.Proofs.Ytgocnjiabfmdpaa.Wire
set_option maxRecDepth 8000
open Go.RowKit

section
variable {α : Type} (rd : List UInt8 → Option (α × List UInt8))

theorem repP_succ : ∀ (k : Nat) (l : List UInt8), repP rd (k + 1) l = match repP rd k l with
    | none => none
    | some (xs, t) => match rd t with
      | none => none
      | some (x, r) => some (xs ++ [x], r)
  | 0, l => by
    simp only [repP]
    cases rd l with
    | none => rfl
    | some x => rfl
  | k + 1, l => by
    rw [repP]
    cases h : rd l with
    | none => simp only [repP, h]
    | some x =>
      simp only [repP_succ k x.2]
      simp only [repP, h]
      cases repP rd k x.2 with
      | none => rfl
      | some y =>
        simp only
        cases rd y.2 with
        | none => rfl
        | some z => rfl

theorem repP_mono {n : Nat} {l : List UInt8} (h : (repP rd n l).isSome) : ∀ k, k ≤ n → (repP rd k l).isSome := by
  intro k hk
  induction n with
  | zero =>
    have : k = 0 := by omega
    subst this; exact h
  | succ n ih =>
    by_cases e : k = n + 1
    · subst e; exact h
    · refine ih ?_ (by omega)
      rw [repP_succ] at h
      cases hr : repP rd n l with
      | none => rw [hr] at h; cases h
      | some x => rfl

theorem repP_len (hc : ∀ l x r, rd l = some (x, r) → r.length < l.length) : ∀ (n : Nat) (l : List UInt8) (xs : List α) (t : List UInt8), repP rd n l = some (xs, t) → xs.length = n ∧ xs.length + t.length ≤ l.length
  | 0, l, xs, t, h => by
    simp only [repP, Option.some.injEq, Prod.mk.injEq] at h
    obtain ⟨rfl, rfl⟩ := h
    simp
  | n + 1, l, xs, t, h => by
    simp only [repP] at h
    cases h1 : rd l with
    | none => rw [h1] at h; cases h
    | some x =>
      rw [h1] at h
      simp only at h
      cases h2 : repP rd n x.2 with
      | none => rw [h2] at h; cases h
      | some y =>
        rw [h2] at h
        simp only [Option.some.injEq, Prod.mk.injEq] at h
        obtain ⟨rfl, rfl⟩ := h
        have a1 := hc l x.1 x.2 (by rw [h1])
        have a2 := repP_len hc n x.2 y.1 y.2 (by rw [h2])
        simp only [List.length_cons]
        omega
end

theorem numP_len {l r : List UInt8} {v : Nat} (h : numP l = some (v, r)) : r.length < l.length := (digP_le h).2
theorem intP_len {l r : List UInt8} {v : Int} (h : intP l = some (v, r)) : r.length < l.length := by
  unfold intP at h
  split at h
  · cases hn : negP (l.drop 1) with
    | none => rw [hn] at h; cases h
    | some x =>
      rw [hn] at h
      simp only at h
      split at h
      · cases h
      · simp only [Option.some.injEq, Prod.mk.injEq] at h
        have := (digP_le (v := x.1) (r := x.2) hn).2
        rw [List.length_drop] at this
        rw [← h.2]; omega
  · cases hn : numP l with
    | none => rw [hn] at h; cases h
    | some x =>
      rw [hn] at h
      simp only [Option.some.injEq, Prod.mk.injEq] at h
      have := (digP_le (v := x.1) (r := x.2) hn).2
      rw [← h.2]; omega
theorem textP_len {l r v : List UInt8} (h : textP l = some (v, r)) : v.length + r.length < l.length := by
  unfold textP at h
  cases hn : lenP l with
  | none => rw [hn] at h; cases h
  | some x =>
    rw [hn] at h
    simp only at h
    split at h
    · rename_i h44
      simp only [Option.some.injEq, Prod.mk.injEq] at h
      have := (digP_le (v := x.1) (r := x.2) hn).2
      obtain ⟨rfl, rfl⟩ := h
      have hlt : x.1 < x.2.length := by
        rcases Nat.lt_or_ge x.1 x.2.length with h | h
        · exact h
        · rw [List.getElem?_eq_none h] at h44; cases h44
      rw [List.length_take, List.length_drop]; omega
    · cases h
theorem intP_i64 {l r : List UInt8} {v : Int} (h : intP l = some (v, r)) : -9223372036854775808 ≤ v ∧ v ≤ 9223372036854775807 := by
  unfold intP at h
  split at h
  · cases hn : negP (l.drop 1) with
    | none => rw [hn] at h; cases h
    | some x =>
      rw [hn] at h
      simp only at h
      split at h
      · cases h
      · simp only [Option.some.injEq, Prod.mk.injEq] at h
        have h1 : x.1 ≤ 9223372036854775808 := (digP_le (v := x.1) (r := x.2) hn).1
        rw [← h.1]; omega
  · cases hn : numP l with
    | none => rw [hn] at h; cases h
    | some x =>
      rw [hn] at h
      simp only [Option.some.injEq, Prod.mk.injEq] at h
      have h1 : x.1 ≤ 9223372036854775807 := (digP_le (v := x.1) (r := x.2) hn).1
      rw [← h.1]; omega

end Go.Proofs.Ytgocnjiabfmdpaa.Wire
