/- Plain: what a reader does, as functions on lists of bytes. -/
import Derived.Test.YtgocnjiabfmdpaaRPlain
namespace Go.Proofs.Ytgocnjiabfmdpaa.Wire
set_option maxRecDepth 8000
open Go.RowKit

def isDg (c : UInt8) : Bool := decide (48 ≤ c.toNat ∧ c.toNat ≤ 57)
def val (l : List UInt8) : Nat := l.foldl (fun n c => n * 10 + (c.toNat - 48)) 0
theorem val_snoc (l : List UInt8) (c : UInt8) : val (l ++ [c]) = val l * 10 + (c.toNat - 48) := by simp [val]

/-- The number of leading digits. -/
def cnt : List UInt8 → Nat
  | [] => 0
  | c :: l => if isDg c then cnt l + 1 else 0
theorem cnt_le : ∀ l : List UInt8, cnt l ≤ l.length
  | [] => Nat.le_refl _
  | c :: l => by unfold cnt; have := cnt_le l; split <;> simp; omega
theorem cnt_dg : ∀ (l : List UInt8) (k : Nat) (h : k < cnt l), isDg (l[k]'(Nat.lt_of_lt_of_le h (cnt_le l))) = true
  | [], k, h => absurd h (by simp [cnt])
  | c :: l, k, h => by
    unfold cnt at h
    split at h
    · cases k with
      | zero => simpa
      | succ k => simpa using cnt_dg l k (by omega)
    · omega
theorem cnt_end : ∀ (l : List UInt8) (h : cnt l < l.length), isDg (l[cnt l]'h) = false
  | [], h => absurd h (by simp)
  | c :: l, h => by
    by_cases hc : isDg c
    · have e : cnt (c :: l) = cnt l + 1 := by simp [cnt, hc]
      have h' : cnt l < l.length := by rw [e] at h; simpa using h
      simpa [e] using cnt_end l h'
    · have e : cnt (c :: l) = 0 := by simp [cnt, hc]
      simpa [e] using hc

/-- An integer of at most most, its digits from the left, and the byte e. -/
def digP (most : Nat) (e : UInt8) (l : List UInt8) : Option (Nat × List UInt8) :=
  if cnt l = 0 ∨ (1 < cnt l ∧ l[0]? = some 48) ∨ most < val (l.take (cnt l)) ∨ l[cnt l]? ≠ some e then none
  else some (val (l.take (cnt l)), l.drop (cnt l + 1))

theorem take_snoc' (l : List UInt8) (k : Nat) (h : k < l.length) : l.take (k + 1) = l.take k ++ [l[k]] := List.take_succ_eq_append_getElem h
theorem val_step (l : List UInt8) (k : Nat) (h : k < l.length) : val (l.take (k + 1)) = val (l.take k) * 10 + (l[k].toNat - 48) := by rw [take_snoc' l k h, val_snoc]
theorem val_mono (l : List UInt8) (i : Nat) : ∀ j, i ≤ j → j ≤ l.length → val (l.take i) ≤ val (l.take j) := by
  intro j hij
  induction j with
  | zero => intro _; have : i = 0 := by omega
            rw [this]; exact Nat.le_refl _
  | succ j ih =>
    intro hj
    by_cases h : i = j + 1
    · subst h; exact Nat.le_refl _
    · have h1 := ih (by omega) (by omega)
      rw [val_step l j (by omega)]; omega

theorem digP_some {most : Nat} {e : UInt8} {l r : List UInt8} {v : Nat} (h : digP most e l = some (v, r)) :
    0 < cnt l ∧ ¬ (1 < cnt l ∧ l[0]? = some 48) ∧ val (l.take (cnt l)) ≤ most ∧ l[cnt l]? = some e ∧ cnt l < l.length ∧ v = val (l.take (cnt l)) ∧ r = l.drop (cnt l + 1) := by
  unfold digP at h
  split at h
  · cases h
  · rename_i hn
    simp only [Option.some.injEq, Prod.mk.injEq] at h
    have h4 : l[cnt l]? = some e := Classical.byContradiction fun hh => hn (.inr (.inr (.inr hh)))
    have h5 : cnt l < l.length := by
      rcases Nat.lt_or_ge (cnt l) l.length with h | h
      · exact h
      · rw [List.getElem?_eq_none h] at h4; cases h4
    refine ⟨?_, fun hh => hn (.inr (.inl hh)), ?_, h4, h5, h.1.symm, h.2.symm⟩
    · rcases Nat.eq_zero_or_pos (cnt l) with h | h
      · exact absurd (.inl h) hn
      · exact h
    · rcases Nat.lt_or_ge most (val (l.take (cnt l))) with h | h
      · exact absurd (.inr (.inr (.inl h))) hn
      · exact h
theorem digP_none {most : Nat} {e : UInt8} {l : List UInt8} (h : digP most e l = none) :
    cnt l = 0 ∨ (1 < cnt l ∧ l[0]? = some 48) ∨ most < val (l.take (cnt l)) ∨ l[cnt l]? ≠ some e := by
  unfold digP at h
  split at h
  · assumption
  · cases h

def numP (l : List UInt8) : Option (Nat × List UInt8) := digP (Int.toNat 9223372036854775807) 59 l
def lenP (l : List UInt8) : Option (Nat × List UInt8) := digP (Int.toNat 9223372036854775807) 58 l
def cntP (l : List UInt8) : Option (Nat × List UInt8) := digP (Int.toNat 9223372036854775807) 91 l
def negP (l : List UInt8) : Option (Nat × List UInt8) := digP (Int.toNat 9223372036854775808) 59 l
def intP (l : List UInt8) : Option (Int × List UInt8) :=
  if l[0]? = some 45 then (match negP (l.drop 1) with | none => none | some (v, r) => if v = 0 then none else some (-(v : Int), r))
  else (match numP l with | none => none | some (v, r) => some ((v : Int), r))
def textP (l : List UInt8) : Option (List UInt8 × List UInt8) :=
  match lenP l with
  | none => none
  | some (n, r) => if r[n]? = some 44 then some (r.take n, r.drop (n + 1)) else none
/-- n values, one after the other. -/
def repP {α : Type} (rd : List UInt8 → Option (α × List UInt8)) : Nat → List UInt8 → Option (List α × List UInt8)
  | 0, l => some ([], l)
  | n + 1, l => match rd l with
    | none => none
    | some (x, r) => match repP rd n r with
      | none => none
      | some (xs, t) => some (x :: xs, t)
def listP {α : Type} (rd : List UInt8 → Option (α × List UInt8)) (l : List UInt8) : Option (List α × List UInt8) :=
  match cntP l with
  | none => none
  | some (n, r) => match repP rd n r with
    | none => none
    | some (xs, t) => if t[0]? = some 93 then some (xs, t.drop 1) else none

theorem digP_le {most : Nat} {e : UInt8} {l r : List UInt8} {v : Nat} (h : digP most e l = some (v, r)) : v ≤ most ∧ r.length < l.length := by
  obtain ⟨_, _, h2, _, h4, h5, h6⟩ := digP_some h
  subst h5; subst h6
  exact ⟨h2, by rw [List.length_drop]; omega⟩

end Go.Proofs.Ytgocnjiabfmdpaa.Wire
