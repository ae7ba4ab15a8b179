/- Plain facts on decimal digits and on the encodings, over lists of bytes. No program. Plain: what a reader does, as functions on lists of bytes. Plain: values read one after the other. Plain: what is read of an encoding, and that only an encoding is read. -/
import Derived.Below
import Derived.OwnWalk
namespace Go.Proofs.Ytgocnjiabfmdpaa.Wire
set_option maxRecDepth 8000
open Go.RowKit

/-- The decimal digits of a number. -/
def dg (n : Nat) : List UInt8 := if h : n < 10 then [UInt8.ofNat (48 + n)] else dg (n / 10) ++ [UInt8.ofNat (48 + n % 10)]
termination_by n
decreasing_by omega

theorem dg_lt {n : Nat} (h : n < 10) : dg n = [UInt8.ofNat (48 + n)] := by rw [dg, dif_pos h]
theorem dg_ge {n : Nat} (h : ¬ n < 10) : dg n = dg (n / 10) ++ [UInt8.ofNat (48 + n % 10)] := by rw [dg, dif_neg h]

theorem dg_len (k : Nat) : ∀ n, n < 10 ^ (k + 1) → (dg n).length ≤ k + 1 := by
  induction k with
  | zero => intro n h; rw [dg_lt (by simpa using h)]; simp
  | succ k ih =>
    intro n h
    by_cases hn : n < 10
    · rw [dg_lt hn]; simp
    · rw [dg_ge hn]
      have := ih (n / 10) (by rw [Nat.div_lt_iff_lt_mul (by omega)]; rw [Nat.pow_succ] at h; omega)
      simp; omega
theorem dg_len20 {n : Nat} (h : n < 18446744073709551616) : (dg n).length ≤ 20 := dg_len 19 n (by omega)
theorem dg_pos (n : Nat) : 1 ≤ (dg n).length := by rw [dg]; split <;> simp

/-- Bytes as cells. -/
def bc (l : List UInt8) : List Value := l.map fun b => Value.int .u8 (b.toNat : Int)
theorem bc_append (a b : List UInt8) : bc (a ++ b) = bc a ++ bc b := by simp [bc]
theorem bc_length (a : List UInt8) : (bc a).length = a.length := by simp [bc]
theorem bc_digit {n : Int} (h0 : 0 ≤ n) (h1 : n < 10) : bc [UInt8.ofNat (48 + n.toNat)] = [Value.int .u8 (48 + n)] := by
  have : (UInt8.ofNat (48 + n.toNat)).toNat = 48 + n.toNat := by simp [UInt8.toNat_ofNat']; omega
  simp only [bc, List.map_cons, List.map_nil, this]
  congr 2; omega

def encNat (n : Nat) : List UInt8 := dg n ++ [59]
def encInt (n : Int) : List UInt8 := if n < 0 then 45 :: (dg n.natAbs ++ [59]) else dg n.toNat ++ [59]
def encText (s : List UInt8) : List UInt8 := dg s.length ++ [58] ++ s ++ [44]
def encList (l : List (List UInt8)) : List UInt8 := dg l.length ++ [91] ++ l.flatten ++ [93]

end Go.Proofs.Ytgocnjiabfmdpaa.Wire

namespace Go.Proofs.Ytgocnjiabfmdpaa.Wire
set_option maxRecDepth 8000
open Go.RowKit

def isDg (c : UInt8) : Bool := decide (48 ≤ c.toNat ∧ c.toNat ≤ 57)
def val (l : List UInt8) : Nat := l.foldl (fun n c => n * 10 + (c.toNat - 48)) 0
theorem val_snoc (l : List UInt8) (c : UInt8) : val (l ++ [c]) = val l * 10 + (c.toNat - 48) := by simp [val]

/-- The number of leading digits. -/
def cnt : List UInt8 → Nat
  | [] => 0
  | c :: l => if isDg c then cnt l + 1 else 0
theorem cnt_le : ∀ l : List UInt8, cnt l ≤ l.length
  | [] => Nat.le_refl _
  | c :: l => by unfold cnt; have := cnt_le l; split <;> simp; omega
theorem cnt_dg : ∀ (l : List UInt8) (k : Nat) (h : k < cnt l), isDg (l[k]'(Nat.lt_of_lt_of_le h (cnt_le l))) = true
  | [], k, h => absurd h (by simp [cnt])
  | c :: l, k, h => by
    unfold cnt at h
    split at h
    · cases k with
      | zero => simpa
      | succ k => simpa using cnt_dg l k (by omega)
    · omega
theorem cnt_end : ∀ (l : List UInt8) (h : cnt l < l.length), isDg (l[cnt l]'h) = false
  | [], h => absurd h (by simp)
  | c :: l, h => by
    by_cases hc : isDg c
    · have e : cnt (c :: l) = cnt l + 1 := by simp [cnt, hc]
      have h' : cnt l < l.length := by rw [e] at h; simpa using h
      simpa [e] using cnt_end l h'
    · have e : cnt (c :: l) = 0 := by simp [cnt, hc]
      simpa [e] using hc

/-- An integer of at most most, its digits from the left, and the byte e. -/
def digP (most : Nat) (e : UInt8) (l : List UInt8) : Option (Nat × List UInt8) :=
  if cnt l = 0 ∨ (1 < cnt l ∧ l[0]? = some 48) ∨ most < val (l.take (cnt l)) ∨ l[cnt l]? ≠ some e then none
  else some (val (l.take (cnt l)), l.drop (cnt l + 1))

theorem take_snoc' (l : List UInt8) (k : Nat) (h : k < l.length) : l.take (k + 1) = l.take k ++ [l[k]] := List.take_succ_eq_append_getElem h
theorem val_step (l : List UInt8) (k : Nat) (h : k < l.length) : val (l.take (k + 1)) = val (l.take k) * 10 + (l[k].toNat - 48) := by rw [take_snoc' l k h, val_snoc]
theorem val_mono (l : List UInt8) (i : Nat) : ∀ j, i ≤ j → j ≤ l.length → val (l.take i) ≤ val (l.take j) := by
  intro j hij
  induction j with
  | zero => intro _; have : i = 0 := by omega
            rw [this]; exact Nat.le_refl _
  | succ j ih =>
    intro hj
    by_cases h : i = j + 1
    · subst h; exact Nat.le_refl _
    · have h1 := ih (by omega) (by omega)
      rw [val_step l j (by omega)]; omega

theorem digP_some {most : Nat} {e : UInt8} {l r : List UInt8} {v : Nat} (h : digP most e l = some (v, r)) :
    0 < cnt l ∧ ¬ (1 < cnt l ∧ l[0]? = some 48) ∧ val (l.take (cnt l)) ≤ most ∧ l[cnt l]? = some e ∧ cnt l < l.length ∧ v = val (l.take (cnt l)) ∧ r = l.drop (cnt l + 1) := by
  unfold digP at h
  split at h
  · cases h
  · rename_i hn
    simp only [Option.some.injEq, Prod.mk.injEq] at h
    have h4 : l[cnt l]? = some e := Classical.byContradiction fun hh => hn (.inr (.inr (.inr hh)))
    have h5 : cnt l < l.length := by
      rcases Nat.lt_or_ge (cnt l) l.length with h | h
      · exact h
      · rw [List.getElem?_eq_none h] at h4; cases h4
    refine ⟨?_, fun hh => hn (.inr (.inl hh)), ?_, h4, h5, h.1.symm, h.2.symm⟩
    · rcases Nat.eq_zero_or_pos (cnt l) with h | h
      · exact absurd (.inl h) hn
      · exact h
    · rcases Nat.lt_or_ge most (val (l.take (cnt l))) with h | h
      · exact absurd (.inr (.inr (.inl h))) hn
      · exact h
theorem digP_none {most : Nat} {e : UInt8} {l : List UInt8} (h : digP most e l = none) :
    cnt l = 0 ∨ (1 < cnt l ∧ l[0]? = some 48) ∨ most < val (l.take (cnt l)) ∨ l[cnt l]? ≠ some e := by
  unfold digP at h
  split at h
  · assumption
  · cases h

def numP (l : List UInt8) : Option (Nat × List UInt8) := digP (Int.toNat 9223372036854775807) 59 l
def lenP (l : List UInt8) : Option (Nat × List UInt8) := digP (Int.toNat 9223372036854775807) 58 l
def cntP (l : List UInt8) : Option (Nat × List UInt8) := digP (Int.toNat 9223372036854775807) 91 l
def negP (l : List UInt8) : Option (Nat × List UInt8) := digP (Int.toNat 9223372036854775808) 59 l
def intP (l : List UInt8) : Option (Int × List UInt8) :=
  if l[0]? = some 45 then (match negP (l.drop 1) with | none => none | some (v, r) => if v = 0 then none else some (-(v : Int), r))
  else (match numP l with | none => none | some (v, r) => some ((v : Int), r))
def textP (l : List UInt8) : Option (List UInt8 × List UInt8) :=
  match lenP l with
  | none => none
  | some (n, r) => if r[n]? = some 44 then some (r.take n, r.drop (n + 1)) else none
/-- n values, one after the other. -/
def repP {α : Type} (rd : List UInt8 → Option (α × List UInt8)) : Nat → List UInt8 → Option (List α × List UInt8)
  | 0, l => some ([], l)
  | n + 1, l => match rd l with
    | none => none
    | some (x, r) => match repP rd n r with
      | none => none
      | some (xs, t) => some (x :: xs, t)
def listP {α : Type} (rd : List UInt8 → Option (α × List UInt8)) (l : List UInt8) : Option (List α × List UInt8) :=
  match cntP l with
  | none => none
  | some (n, r) => match repP rd n r with
    | none => none
    | some (xs, t) => if t[0]? = some 93 then some (xs, t.drop 1) else none

theorem digP_le {most : Nat} {e : UInt8} {l r : List UInt8} {v : Nat} (h : digP most e l = some (v, r)) : v ≤ most ∧ r.length < l.length := by
  obtain ⟨_, _, h2, _, h4, h5, h6⟩ := digP_some h
  subst h5; subst h6
  exact ⟨h2, by rw [List.length_drop]; omega⟩

end Go.Proofs.Ytgocnjiabfmdpaa.Wire

namespace Go.Proofs.Ytgocnjiabfmdpaa.Wire
set_option maxRecDepth 8000
open Go.RowKit

section
variable {α : Type} (rd : List UInt8 → Option (α × List UInt8))

theorem repP_succ : ∀ (k : Nat) (l : List UInt8), repP rd (k + 1) l = match repP rd k l with
    | none => none
    | some (xs, t) => match rd t with
      | none => none
      | some (x, r) => some (xs ++ [x], r)
  | 0, l => by
    simp only [repP]
    cases rd l with
    | none => rfl
    | some x => rfl
  | k + 1, l => by
    rw [repP]
    cases h : rd l with
    | none => simp only [repP, h]
    | some x =>
      simp only [repP_succ k x.2]
      simp only [repP, h]
      cases repP rd k x.2 with
      | none => rfl
      | some y =>
        simp only
        cases rd y.2 with
        | none => rfl
        | some z => rfl

theorem repP_mono {n : Nat} {l : List UInt8} (h : (repP rd n l).isSome) : ∀ k, k ≤ n → (repP rd k l).isSome := by
  intro k hk
  induction n with
  | zero =>
    have : k = 0 := by omega
    subst this; exact h
  | succ n ih =>
    by_cases e : k = n + 1
    · subst e; exact h
    · refine ih ?_ (by omega)
      rw [repP_succ] at h
      cases hr : repP rd n l with
      | none => rw [hr] at h; cases h
      | some x => rfl

theorem repP_len (hc : ∀ l x r, rd l = some (x, r) → r.length < l.length) : ∀ (n : Nat) (l : List UInt8) (xs : List α) (t : List UInt8), repP rd n l = some (xs, t) → xs.length = n ∧ xs.length + t.length ≤ l.length
  | 0, l, xs, t, h => by
    simp only [repP, Option.some.injEq, Prod.mk.injEq] at h
    obtain ⟨rfl, rfl⟩ := h
    simp
  | n + 1, l, xs, t, h => by
    simp only [repP] at h
    cases h1 : rd l with
    | none => rw [h1] at h; cases h
    | some x =>
      rw [h1] at h
      simp only at h
      cases h2 : repP rd n x.2 with
      | none => rw [h2] at h; cases h
      | some y =>
        rw [h2] at h
        simp only [Option.some.injEq, Prod.mk.injEq] at h
        obtain ⟨rfl, rfl⟩ := h
        have a1 := hc l x.1 x.2 (by rw [h1])
        have a2 := repP_len hc n x.2 y.1 y.2 (by rw [h2])
        simp only [List.length_cons]
        omega
end

theorem numP_len {l r : List UInt8} {v : Nat} (h : numP l = some (v, r)) : r.length < l.length := (digP_le h).2
theorem intP_len {l r : List UInt8} {v : Int} (h : intP l = some (v, r)) : r.length < l.length := by
  unfold intP at h
  split at h
  · cases hn : negP (l.drop 1) with
    | none => rw [hn] at h; cases h
    | some x =>
      rw [hn] at h
      simp only at h
      split at h
      · cases h
      · simp only [Option.some.injEq, Prod.mk.injEq] at h
        have := (digP_le (v := x.1) (r := x.2) hn).2
        rw [List.length_drop] at this
        rw [← h.2]; omega
  · cases hn : numP l with
    | none => rw [hn] at h; cases h
    | some x =>
      rw [hn] at h
      simp only [Option.some.injEq, Prod.mk.injEq] at h
      have := (digP_le (v := x.1) (r := x.2) hn).2
      rw [← h.2]; omega
theorem textP_len {l r v : List UInt8} (h : textP l = some (v, r)) : v.length + r.length < l.length := by
  unfold textP at h
  cases hn : lenP l with
  | none => rw [hn] at h; cases h
  | some x =>
    rw [hn] at h
    simp only at h
    split at h
    · rename_i h44
      simp only [Option.some.injEq, Prod.mk.injEq] at h
      have := (digP_le (v := x.1) (r := x.2) hn).2
      obtain ⟨rfl, rfl⟩ := h
      have hlt : x.1 < x.2.length := by
        rcases Nat.lt_or_ge x.1 x.2.length with h | h
        · exact h
        · rw [List.getElem?_eq_none h] at h44; cases h44
      rw [List.length_take, List.length_drop]; omega
    · cases h
theorem intP_i64 {l r : List UInt8} {v : Int} (h : intP l = some (v, r)) : -9223372036854775808 ≤ v ∧ v ≤ 9223372036854775807 := by
  unfold intP at h
  split at h
  · cases hn : negP (l.drop 1) with
    | none => rw [hn] at h; cases h
    | some x =>
      rw [hn] at h
      simp only at h
      split at h
      · cases h
      · simp only [Option.some.injEq, Prod.mk.injEq] at h
        have h1 : x.1 ≤ 9223372036854775808 := (digP_le (v := x.1) (r := x.2) hn).1
        rw [← h.1]; omega
  · cases hn : numP l with
    | none => rw [hn] at h; cases h
    | some x =>
      rw [hn] at h
      simp only [Option.some.injEq, Prod.mk.injEq] at h
      have h1 : x.1 ≤ 9223372036854775807 := (digP_le (v := x.1) (r := x.2) hn).1
      rw [← h.1]; omega

end Go.Proofs.Ytgocnjiabfmdpaa.Wire

namespace Go.Proofs.Ytgocnjiabfmdpaa.Wire
set_option maxRecDepth 8000
open Go.RowKit

theorem dgt_toNat {n : Nat} (h : n < 10) : (UInt8.ofNat (48 + n)).toNat = 48 + n := by simp [UInt8.toNat_ofNat']; omega
theorem dgt_isDg {n : Nat} (h : n < 10) : isDg (UInt8.ofNat (48 + n)) = true := by unfold isDg; rw [dgt_toNat h]; simp; omega

theorem dg_all (n : Nat) : ∀ c ∈ dg n, isDg c = true := by
  induction n using Nat.strongRecOn with
  | _ n ih =>
    intro c hc
    by_cases h : n < 10
    · rw [dg_lt h, List.mem_singleton] at hc; rw [hc]; exact dgt_isDg h
    · rw [dg_ge h, List.mem_append, List.mem_singleton] at hc
      rcases hc with hc | hc
      · exact ih (n / 10) (by omega) c hc
      · rw [hc]; exact dgt_isDg (by omega)

theorem val_dg (n : Nat) : val (dg n) = n := by
  induction n using Nat.strongRecOn with
  | _ n ih =>
    by_cases h : n < 10
    · rw [dg_lt h]; simp only [val, List.foldl_cons, List.foldl_nil, dgt_toNat h]; omega
    · rw [dg_ge h, val_snoc, ih (n / 10) (by omega), dgt_toNat (by omega)]; omega

theorem dg_head (n : Nat) (h : 0 < n) : ∃ c, (dg n)[0]? = some c ∧ c ≠ 48 := by
  induction n using Nat.strongRecOn with
  | _ n ih =>
    by_cases h10 : n < 10
    · rw [dg_lt h10]
      refine ⟨_, rfl, fun e => ?_⟩
      have := congrArg UInt8.toNat e
      rw [dgt_toNat h10] at this
      have h48 : (48 : UInt8).toNat = 48 := rfl
      omega
    · obtain ⟨c, hc, hn⟩ := ih (n / 10) (by omega) (by omega)
      refine ⟨c, ?_, hn⟩
      rw [dg_ge h10, List.getElem?_append_left (by have := dg_pos (n / 10); omega)]
      exact hc
theorem dg_zeros (n : Nat) : ¬ (1 < (dg n).length ∧ (dg n)[0]? = some 48) := by
  rintro ⟨h1, h2⟩
  by_cases h : n < 10
  · rw [dg_lt h] at h1; simp at h1
  · obtain ⟨c, hc, hn⟩ := dg_head n (by omega)
    rw [h2] at hc
    exact hn (Option.some.inj hc).symm

theorem cnt_append (a : List UInt8) (ha : ∀ c ∈ a, isDg c = true) (e : UInt8) (he : isDg e = false) (r : List UInt8) : cnt (a ++ e :: r) = a.length := by
  induction a with
  | nil => simp [cnt, he]
  | cons c a ih =>
    have hc := ha c List.mem_cons_self
    simp only [List.cons_append, cnt, hc, if_true, List.length_cons]
    rw [ih (fun x hx => ha x (List.mem_cons_of_mem _ hx))]

theorem digP_dg {most n : Nat} {e : UInt8} (he : isDg e = false) (hn : n ≤ most) (r : List UInt8) : digP most e (dg n ++ e :: r) = some (n, r) := by
  have hc := cnt_append (dg n) (dg_all n) e he r
  have hp := dg_pos n
  unfold digP
  rw [hc, if_neg, List.take_left, val_dg]
  · congr 2
    rw [List.drop_append]; simp
  · rw [List.take_left, val_dg, List.getElem?_append_left (by omega), List.getElem?_append_right (by omega)]
    rintro (h | h | h | h)
    · omega
    · exact dg_zeros n h
    · omega
    · apply h; simp

/-- Digits without a leading zero are the digits of their value. -/
theorem dg_val : ∀ (k : Nat) (a : List UInt8), a.length = k → (∀ c ∈ a, isDg c = true) → 0 < k → ¬ (1 < k ∧ a[0]? = some 48) → dg (val a) = a := by
  intro k
  induction k with
  | zero => intro a _ _ h; omega
  | succ k ih =>
    intro a hl ha _ hz
    obtain ⟨b, c, rfl⟩ : ∃ b c, a = b ++ [c] := by
      have hne : a ≠ [] := by intro h; rw [h] at hl; simp at hl
      exact ⟨a.dropLast, a.getLast hne, (List.dropLast_concat_getLast hne).symm⟩
    have hc := ha c (by simp)
    have hc' : 48 ≤ c.toNat ∧ c.toNat ≤ 57 := by simpa [isDg] using hc
    have hcc : UInt8.ofNat (48 + (c.toNat - 48)) = c := by
      apply UInt8.toNat_inj.1
      rw [dgt_toNat (by omega)]; omega
    have hb : b.length = k := by simpa using hl
    rw [val_snoc]
    by_cases hk : k = 0
    · subst hk
      have : b = [] := List.eq_nil_of_length_eq_zero hb
      subst this
      have hv : val [] = 0 := rfl
      rw [hv, dg_lt (by omega)]
      simp only [Nat.zero_mul, Nat.zero_add, List.nil_append]
      rw [hcc]
    · have hb0 : (b ++ [c])[0]? = b[0]? := List.getElem?_append_left (by omega)
      rw [hb0] at hz
      have hih := ih b hb (fun x hx => ha x (by simp [hx])) (by omega) (by rintro ⟨_, h⟩; exact hz ⟨by omega, h⟩)
      have hvb : 0 < val b := by
        rcases Nat.eq_zero_or_pos (val b) with h0 | h0
        · exfalso
          rw [h0, dg_lt (by omega)] at hih
          apply hz
          refine ⟨by omega, ?_⟩
          rw [← hih]; rfl
        · exact h0
      rw [dg_ge (by omega), show (val b * 10 + (c.toNat - 48)) / 10 = val b by omega, hih, show (val b * 10 + (c.toNat - 48)) % 10 = c.toNat - 48 by omega, hcc]

theorem cnt_take_all : ∀ (l : List UInt8), ∀ c ∈ l.take (cnt l), isDg c = true
  | [], c, h => by simp at h
  | x :: l, c, h => by
    by_cases hx : isDg x = true
    · simp only [cnt, hx, if_true, List.take_succ_cons, List.mem_cons] at h
      rcases h with h | h
      · rw [h]; exact hx
      · exact cnt_take_all l c h
    · simp [cnt, hx] at h

theorem digP_inv {most v : Nat} {e : UInt8} {l r : List UInt8} (h : digP most e l = some (v, r)) : l = dg v ++ e :: r := by
  obtain ⟨h0, h1, _, h3, h4, h5, h6⟩ := digP_some h
  have hlen : (l.take (cnt l)).length = cnt l := by rw [List.length_take]; omega
  have hd := dg_val (cnt l) (l.take (cnt l)) hlen (cnt_take_all l) h0 (by
    rintro ⟨a, b⟩
    rw [List.getElem?_take_of_lt h0] at b
    exact h1 ⟨a, b⟩)
  rw [h5, hd, h6]
  have he : l[cnt l]'h4 = e := by rw [List.getElem?_eq_getElem h4] at h3; exact Option.some.inj h3
  conv => lhs; rw [← List.take_append_drop (cnt l) l]
  rw [List.drop_eq_getElem_cons h4, he]

theorem notDg59 : isDg 59 = false := by decide
theorem notDg58 : isDg 58 = false := by decide
theorem notDg91 : isDg 91 = false := by decide

theorem numP_enc {n : Nat} (hn : n ≤ 9223372036854775807) (r : List UInt8) : numP (dg n ++ 59 :: r) = some (n, r) := digP_dg notDg59 hn r

theorem dg_first (n : Nat) : ∃ c t, dg n = c :: t ∧ isDg c = true := by
  cases h : dg n with
  | nil => have := dg_pos n; rw [h] at this; simp at this
  | cons c t => exact ⟨c, t, rfl, dg_all n c (by rw [h]; exact List.mem_cons_self)⟩
theorem dg_not45 (n : Nat) (r : List UInt8) : ¬ (dg n ++ r)[0]? = some 45 := by
  obtain ⟨c, t, h, hc⟩ := dg_first n
  rw [h]
  intro e
  have : c = 45 := Option.some.inj e
  subst this
  exact absurd hc (by decide)

theorem intP_enc {n : Int} (h : -9223372036854775808 ≤ n ∧ n ≤ 9223372036854775807) (r : List UInt8) : intP (encInt n ++ r) = some (n, r) := by
  unfold encInt
  by_cases hn : n < 0
  · rw [if_pos hn]
    unfold intP
    rw [if_pos (by rfl)]
    have : negP (List.drop 1 (45 :: (dg n.natAbs ++ [59]) ++ r)) = some (n.natAbs, r) := by
      show negP (dg n.natAbs ++ [59] ++ r) = _
      rw [List.append_assoc]
      exact digP_dg notDg59 (show n.natAbs ≤ 9223372036854775808 by omega) r
    rw [this]
    simp only
    rw [if_neg (by omega)]
    congr 2
    omega
  · rw [if_neg hn]
    unfold intP
    rw [List.append_assoc, if_neg (dg_not45 _ _)]
    have : numP (dg n.toNat ++ ([59] ++ r)) = some (n.toNat, r) := numP_enc (by omega) r
    rw [this]
    simp only
    congr 2
    omega

theorem textP_enc {s : List UInt8} (h : s.length ≤ 9223372036854775807) (r : List UInt8) : textP (encText s ++ r) = some (s, r) := by
  have : lenP (encText s ++ r) = some (s.length, s ++ 44 :: r) := by
    unfold encText
    have e : dg s.length ++ [58] ++ s ++ [44] ++ r = dg s.length ++ 58 :: (s ++ 44 :: r) := by simp
    rw [e]
    exact digP_dg notDg58 h _
  unfold textP
  rw [this]
  simp only
  rw [if_pos (by rw [List.getElem?_append_right (Nat.le_refl _)]; simp)]
  congr 2
  · exact List.take_left
  · rw [List.drop_append]; simp

section
variable {α : Type} {rd : List UInt8 → Option (α × List UInt8)} {enc : α → List UInt8}
theorem repP_enc : ∀ (xs : List α), (∀ x ∈ xs, ∀ r, rd (enc x ++ r) = some (x, r)) → ∀ r, repP rd xs.length ((xs.map enc).flatten ++ r) = some (xs, r)
  | [], _, r => rfl
  | x :: xs, h, r => by
    simp only [List.length_cons, repP, List.map_cons, List.flatten_cons, List.append_assoc]
    rw [h x List.mem_cons_self]
    simp only
    rw [repP_enc xs (fun y hy => h y (List.mem_cons_of_mem _ hy))]
theorem listP_enc (xs : List α) (h : ∀ x ∈ xs, ∀ r, rd (enc x ++ r) = some (x, r)) (hl : xs.length ≤ 9223372036854775807) (r : List UInt8) : listP rd (encList (xs.map enc) ++ r) = some (xs, r) := by
  have h1 : cntP (encList (xs.map enc) ++ r) = some (xs.length, (xs.map enc).flatten ++ 93 :: r) := by
    unfold encList
    rw [List.length_map]
    have e : dg xs.length ++ [91] ++ (xs.map enc).flatten ++ [93] ++ r = dg xs.length ++ 91 :: ((xs.map enc).flatten ++ 93 :: r) := by simp
    rw [e]
    exact digP_dg notDg91 hl _
  unfold listP
  rw [h1]
  simp only
  rw [repP_enc xs h]
  simp

theorem repP_inv (h : ∀ l x r, rd l = some (x, r) → l = enc x ++ r) : ∀ (n : Nat) (l : List UInt8) (xs : List α) (t : List UInt8), repP rd n l = some (xs, t) → xs.length = n ∧ l = (xs.map enc).flatten ++ t
  | 0, l, xs, t, hh => by
    simp only [repP, Option.some.injEq, Prod.mk.injEq] at hh
    obtain ⟨rfl, rfl⟩ := hh
    simp
  | n + 1, l, xs, t, hh => by
    simp only [repP] at hh
    cases h1 : rd l with
    | none => rw [h1] at hh; cases hh
    | some x =>
      rw [h1] at hh
      simp only at hh
      cases h2 : repP rd n x.2 with
      | none => rw [h2] at hh; cases hh
      | some y =>
        rw [h2] at hh
        simp only [Option.some.injEq, Prod.mk.injEq] at hh
        obtain ⟨rfl, rfl⟩ := hh
        have a1 := h l x.1 x.2 (by rw [h1])
        obtain ⟨a2, a3⟩ := repP_inv h n x.2 y.1 y.2 (by rw [h2])
        refine ⟨by simp [a2], ?_⟩
        rw [a1, a3]; simp
theorem listP_inv (h : ∀ l x r, rd l = some (x, r) → l = enc x ++ r) {l : List UInt8} {xs : List α} {t : List UInt8} (hh : listP rd l = some (xs, t)) : l = encList (xs.map enc) ++ t := by
  unfold listP at hh
  cases h1 : cntP l with
  | none => rw [h1] at hh; cases hh
  | some x =>
    obtain ⟨n, r⟩ := x
    rw [h1] at hh
    simp only at hh
    cases h2 : repP rd n r with
    | none => rw [h2] at hh; cases hh
    | some y =>
      obtain ⟨ys, u⟩ := y
      rw [h2] at hh
      simp only at hh
      split at hh
      · rename_i h93
        simp only [Option.some.injEq, Prod.mk.injEq] at hh
        obtain ⟨rfl, rfl⟩ := hh
        obtain ⟨a2, a3⟩ := repP_inv h n r ys u h2
        have a1 := digP_inv h1
        have hu : u = 93 :: u.drop 1 := by
          cases u with
          | nil => cases h93
          | cons c u => rw [Option.some.inj h93]; rfl
        rw [a1, a3]
        unfold encList
        rw [List.length_map, a2]
        conv => lhs; rw [hu]
        simp
      · cases hh
end

theorem numP_inv {l r : List UInt8} {v : Nat} (h : numP l = some (v, r)) : l = encInt (v : Int) ++ r := by
  rw [digP_inv h]
  unfold encInt
  rw [if_neg (by omega), Int.toNat_natCast]
  simp
theorem intP_inv {l r : List UInt8} {v : Int} (h : intP l = some (v, r)) : l = encInt v ++ r := by
  unfold intP at h
  split at h
  · rename_i h45
    cases hn : negP (l.drop 1) with
    | none => rw [hn] at h; cases h
    | some x =>
      rw [hn] at h
      simp only at h
      split at h
      · cases h
      · simp only [Option.some.injEq, Prod.mk.injEq] at h
        obtain ⟨rfl, rfl⟩ := h
        have a1 := digP_inv (v := x.1) (r := x.2) hn
        have hl : l = 45 :: l.drop 1 := by
          cases l with
          | nil => cases h45
          | cons c l => rw [Option.some.inj h45]; rfl
        rw [hl, a1]
        unfold encInt
        rw [if_pos (by omega), show (-(x.1 : Int)).natAbs = x.1 by omega]
        simp
  · cases hn : numP l with
    | none => rw [hn] at h; cases h
    | some x =>
      rw [hn] at h
      simp only [Option.some.injEq, Prod.mk.injEq] at h
      obtain ⟨rfl, rfl⟩ := h
      exact numP_inv (v := x.1) (r := x.2) hn
theorem textP_inv {l r v : List UInt8} (h : textP l = some (v, r)) : l = encText v ++ r := by
  unfold textP at h
  cases hn : lenP l with
  | none => rw [hn] at h; cases h
  | some x =>
    rw [hn] at h
    simp only at h
    split at h
    · rename_i h44
      simp only [Option.some.injEq, Prod.mk.injEq] at h
      obtain ⟨rfl, rfl⟩ := h
      have a1 := digP_inv (v := x.1) (r := x.2) hn
      have hlt : x.1 < x.2.length := by
        rcases Nat.lt_or_ge x.1 x.2.length with h | h
        · exact h
        · rw [List.getElem?_eq_none h] at h44; cases h44
      have he : x.2[x.1]'hlt = 44 := by rw [List.getElem?_eq_getElem hlt] at h44; exact Option.some.inj h44
      have hs : x.2 = x.2.take x.1 ++ 44 :: x.2.drop (x.1 + 1) := by
        conv => lhs; rw [← List.take_append_drop x.1 x.2]
        rw [List.drop_eq_getElem_cons hlt, he]
      have hl : (x.2.take x.1).length = x.1 := by rw [List.length_take]; omega
      unfold encText
      rw [hl, a1]
      conv => lhs; rw [hs]
      simp
    · cases h

end Go.Proofs.Ytgocnjiabfmdpaa.Wire
