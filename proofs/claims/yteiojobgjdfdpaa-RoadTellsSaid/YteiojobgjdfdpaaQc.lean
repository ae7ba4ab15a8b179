/- Plain: the way back from a node by labels and arcs. No program. -/
import Derived.Test.YteiojobgjdfdpaaQb
namespace Go.Proofs.Yteiojobgjdfdpaa

/-- From a node on, with the arcs that follow, so many steps at most. lab: the labels; ar: where the arcs begin and end. -/
def wayR (lab : List Lb) (ar : Nat → Int × Int) (m : Nat) : Nat → Int → List Int → List Int
  | 0, _, _ => []
  | k + 1, v, acc =>
    if 0 ≤ v ∧ v < lab.length then
      if (lb lab v.toNat).2 = -1 then acc
      else if 0 ≤ (lb lab v.toNat).2 ∧ (lb lab v.toNat).2 < m ∧ acc.length ≠ lab.length ∧ (ar (lb lab v.toNat).2.toNat).2 = v then
        wayR lab ar m k (ar (lb lab v.toNat).2.toNat).1 ((lb lab v.toNat).2 :: acc)
      else []
    else []
/-- What Way returns. -/
def wayP (lab : List Lb) (ar : Nat → Int × Int) (m : Nat) (v : Int) : List Int :=
  if 0 ≤ v ∧ v < lab.length ∧ (lb lab v.toNat).1 ≠ -1 then wayR lab ar m (lab.length + 1) v [] else []
theorem wayR_out {lab : List Lb} {ar : Nat → Int × Int} {m k : Nat} {v : Int} {acc : List Int} (h : ¬ (0 ≤ v ∧ v < lab.length)) : wayR lab ar m k v acc = [] := by
  cases k with
  | zero => rfl
  | succ k => rw [wayR, if_neg h]
theorem wayR_end {lab : List Lb} {ar : Nat → Int × Int} {m k : Nat} {v : Int} {acc : List Int} (h : 0 ≤ v ∧ v < lab.length) (h2 : (lb lab v.toNat).2 = -1) : wayR lab ar m (k + 1) v acc = acc := by
  rw [wayR, if_pos h, if_pos h2]
theorem wayR_bad {lab : List Lb} {ar : Nat → Int × Int} {m k : Nat} {v : Int} {acc : List Int} (h2 : (lb lab v.toNat).2 ≠ -1)
    (h3 : ¬ (0 ≤ (lb lab v.toNat).2 ∧ (lb lab v.toNat).2 < m ∧ acc.length ≠ lab.length ∧ (ar (lb lab v.toNat).2.toNat).2 = v)) : wayR lab ar m k v acc = [] := by
  cases k with
  | zero => rfl
  | succ k =>
    by_cases h : 0 ≤ v ∧ v < lab.length
    · rw [wayR, if_pos h, if_neg h2, if_neg h3]
    · exact wayR_out h
theorem wayR_step {lab : List Lb} {ar : Nat → Int × Int} {m k : Nat} {v : Int} {acc : List Int} {i : Int} (h : 0 ≤ v ∧ v < lab.length) (hi : (lb lab v.toNat).2 = i) (h2 : i ≠ -1)
    (h3 : 0 ≤ i ∧ i < m ∧ acc.length ≠ lab.length ∧ (ar i.toNat).2 = v) : wayR lab ar m (k + 1) v acc = wayR lab ar m k (ar i.toNat).1 (i :: acc) := by
  subst hi
  rw [wayR, if_pos h, if_neg h2, if_pos h3]
/-- A way of the labels: from a node to the node v, arc by arc. -/
inductive PathTo (lab : List Lb) (ar : Nat → Int × Int) (m : Nat) : Int → List Int → Prop
  | base {v : Int} (h : 0 ≤ v ∧ v < lab.length) (h2 : (lb lab v.toNat).2 = -1) : PathTo lab ar m v []
  | step {v : Int} {i : Nat} {p : List Int} (h : 0 ≤ v ∧ v < lab.length) (h2 : (lb lab v.toNat).2 = (i : Int)) (hm : i < m) (he : (ar i).2 = v) (k : PathTo lab ar m (ar i).1 p) : PathTo lab ar m v (p ++ [(i : Int)])
theorem PathTo.way {lab : List Lb} {ar : Nat → Int × Int} {m : Nat} {v : Int} {p : List Int} (h : PathTo lab ar m v p) : ∀ (k : Nat) (acc : List Int), p.length < k → acc.length + p.length ≤ lab.length → wayR lab ar m k v acc = p ++ acc := by
  induction h with
  | base h h2 =>
    intro k acc hk _
    obtain ⟨k, rfl⟩ : ∃ j, k = j + 1 := ⟨k - 1, by simp at hk; omega⟩
    rw [wayR_end h h2]; rfl
  | @step v i p h h2 hm he hp ih =>
    intro k acc hk hl
    rw [List.length_append] at hk hl
    simp only [List.length_cons, List.length_nil] at hk hl
    obtain ⟨k, rfl⟩ : ∃ j, k = j + 1 := ⟨k - 1, by omega⟩
    rw [wayR_step h h2 (by omega) ⟨by omega, by omega, by omega, by simpa using he⟩]
    have := ih k ((i : Int) :: acc) (by omega) (by simp; omega)
    simp only [Int.toNat_natCast]
    rw [this]
    simp

end Go.Proofs.Yteiojobgjdfdpaa
