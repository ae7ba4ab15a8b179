/- Plain: lists of digits to the base 2^20, their value, and the digits of a number. No program. -/
import Derived.Below
import Derived.OwnWalk
namespace Go.Proofs.Yteiojobgjdfdpaa
open Go.RowKit

/-- The value of a list of digits, the lowest one first. -/
def nv : List Int → Int
  | [] => 0
  | d :: l => d + 1048576 * nv l

def pw (k : Nat) : Int := 1048576 ^ k

theorem pw_zero : pw 0 = 1 := rfl
theorem pw_succ (k : Nat) : pw (k + 1) = 1048576 * pw k := by unfold pw; rw [Int.pow_succ, Int.mul_comm]
theorem pw_pos (k : Nat) : 0 < pw k := by
  induction k with
  | zero => decide
  | succ k ih => rw [pw_succ]; omega
theorem pw_add (a b : Nat) : pw (a + b) = pw a * pw b := by unfold pw; rw [Int.pow_add]
theorem pw_one : pw 1 = 1048576 := rfl
theorem pw_le {a b : Nat} (h : a ≤ b) : pw a ≤ pw b := by
  obtain ⟨c, rfl⟩ := Nat.le.dest h
  rw [pw_add]
  have := pw_pos a
  have := pw_pos c
  calc pw a = pw a * 1 := by rw [Int.mul_one]
    _ ≤ pw a * pw c := Int.mul_le_mul_of_nonneg_left (by omega) (by omega)

theorem nv_nil : nv [] = 0 := rfl
theorem nv_cons (d : Int) (l : List Int) : nv (d :: l) = d + 1048576 * nv l := rfl
theorem nv_append (a b : List Int) : nv (a ++ b) = nv a + pw a.length * nv b := by
  induction a with
  | nil => simp [nv, pw]
  | cons d a ih =>
    rw [List.cons_append, nv_cons, nv_cons, ih, List.length_cons, pw_succ, Int.mul_add, Int.mul_assoc]
    omega
theorem nv_snoc (l : List Int) (d : Int) : nv (l ++ [d]) = nv l + pw l.length * d := by
  rw [nv_append, nv_cons, nv_nil, Int.mul_zero, Int.add_zero]

theorem take_snoc {l : List Int} {k : Nat} (h : k < l.length) : l.take (k + 1) = l.take k ++ [l.getD k 0] := by
  rw [List.take_succ_eq_append_getElem h, List.getD_eq_getElem?_getD, List.getElem?_eq_getElem h]; rfl
theorem nv_take_succ {l : List Int} {k : Nat} (h : k < l.length) : nv (l.take (k + 1)) = nv (l.take k) + pw k * l.getD k 0 := by
  rw [take_snoc h, nv_snoc, List.length_take, Nat.min_eq_left (by omega)]
theorem nv_take_all (l : List Int) {k : Nat} (h : l.length ≤ k) : nv (l.take k) = nv l := by rw [List.take_of_length_le h]

def Dig (l : List Int) : Prop := ∀ d ∈ l, 0 ≤ d ∧ d < 1048576
theorem Dig.nil : Dig [] := fun d h => by cases h
theorem Dig.getD {l : List Int} (h : Dig l) {k : Nat} (hk : k < l.length) : 0 ≤ l.getD k 0 ∧ l.getD k 0 < 1048576 := by
  rw [List.getD_eq_getElem?_getD, List.getElem?_eq_getElem hk]
  exact h _ (List.getElem_mem hk)
theorem Dig.getD' {l : List Int} (h : Dig l) (k : Nat) : 0 ≤ l.getD k 0 ∧ l.getD k 0 < 1048576 := by
  rcases Nat.lt_or_ge k l.length with hk | hk
  · exact h.getD hk
  · rw [List.getD_eq_getElem?_getD, List.getElem?_eq_none hk]; decide
theorem Dig.of_getD {l : List Int} (h : ∀ k, k < l.length → 0 ≤ l.getD k 0 ∧ l.getD k 0 < 1048576) : Dig l := by
  intro d hd
  obtain ⟨k, hk, rfl⟩ := List.getElem_of_mem hd
  have := h k hk
  rw [List.getD_eq_getElem?_getD, List.getElem?_eq_getElem hk] at this
  exact this
theorem Dig.take {l : List Int} (h : Dig l) (k : Nat) : Dig (l.take k) := fun d hd => h d (List.mem_of_mem_take hd)
theorem Dig.drop {l : List Int} (h : Dig l) (k : Nat) : Dig (l.drop k) := fun d hd => h d (List.mem_of_mem_drop hd)
theorem Dig.append {a b : List Int} (ha : Dig a) (hb : Dig b) : Dig (a ++ b) := fun d hd => by
  rcases List.mem_append.1 hd with h | h
  · exact ha d h
  · exact hb d h
theorem Dig.snoc {a : List Int} (ha : Dig a) {d : Int} (h0 : 0 ≤ d) (h1 : d < 1048576) : Dig (a ++ [d]) :=
  ha.append fun x hx => by simp at hx; subst hx; exact ⟨h0, h1⟩
theorem Dig.tail {d : Int} {l : List Int} (h : Dig (d :: l)) : Dig l := fun x hx => h x (List.mem_cons_of_mem _ hx)

theorem Dig.nv_nonneg {l : List Int} (h : Dig l) : 0 ≤ nv l := by
  induction l with
  | nil => decide
  | cons d l ih =>
    have := ih h.tail
    have := h d (by simp)
    rw [nv_cons]; omega
theorem Dig.nv_lt {l : List Int} (h : Dig l) : nv l < pw l.length := by
  induction l with
  | nil => decide
  | cons d l ih =>
    have := ih h.tail
    have := h d (by simp)
    rw [nv_cons, List.length_cons, pw_succ]; omega

/-- The digits of a number that is not negative. -/
def D (z : Int) : List Int := if h : z ≤ 0 then [] else z % 1048576 :: D (z / 1048576)
termination_by z.toNat
decreasing_by omega

theorem D_zero : D 0 = [] := by rw [D, dif_pos (by omega)]
theorem D_pos {z : Int} (h : 0 < z) : D z = z % 1048576 :: D (z / 1048576) := by rw [D, dif_neg (by omega)]
theorem D_np {z : Int} (h : z ≤ 0) : D z = [] := by rw [D, dif_pos h]

theorem D_ind {P : Int → Prop} (h0 : ∀ z, z ≤ 0 → P z) (hs : ∀ z, 0 < z → P (z / 1048576) → P z) (z : Int) : P z := by
  have key : ∀ n : Nat, ∀ z : Int, z ≤ n → P z := by
    intro n
    induction n with
    | zero => intro z hz; exact h0 z (by omega)
    | succ n ih =>
      intro z hz
      by_cases h : z ≤ 0
      · exact h0 z h
      · exact hs z (by omega) (ih _ (by omega))
  exact key z.toNat z (by omega)

theorem nv_D {z : Int} (h : 0 ≤ z) : nv (D z) = z := by
  revert h
  refine D_ind (P := fun z => 0 ≤ z → nv (D z) = z) (fun z h h0 => ?_) (fun z h ih h0 => ?_) z
  · rw [D_np h, nv_nil]; omega
  · rw [D_pos h, nv_cons, ih (by omega)]; omega
theorem Dig_D (z : Int) : Dig (D z) := by
  refine D_ind (P := fun z => Dig (D z)) (fun z h => ?_) (fun z h ih => ?_) z
  · rw [D_np h]; exact Dig.nil
  · rw [D_pos h]
    intro d hd
    rcases List.mem_cons.1 hd with rfl | hd
    · omega
    · exact ih d hd

/-- A list of digits with no zero at its end is the digits of its value. -/
def Nrm (l : List Int) : Prop := Dig l ∧ (0 < l.length → l.getD (l.length - 1) 0 ≠ 0)

theorem Nrm.nil : Nrm [] := ⟨Dig.nil, fun h => by cases h⟩
theorem Nrm.tail {d : Int} {l : List Int} (h : Nrm (d :: l)) : Nrm l := by
  refine ⟨h.1.tail, fun hl => ?_⟩
  have := h.2 (by simp)
  simp only [List.length_cons, Nat.add_sub_cancel] at this
  obtain ⟨m, hm⟩ : ∃ m, l.length = m + 1 := ⟨l.length - 1, by omega⟩
  rw [hm] at this ⊢
  simpa using this
theorem Nrm.pos {l : List Int} (h : Nrm l) (hl : 0 < l.length) : 0 < nv l := by
  induction l with
  | nil => cases hl
  | cons d l ih =>
    have h1 := h.1 d (by simp)
    rw [nv_cons]
    by_cases he : 0 < l.length
    · have := ih h.tail he; omega
    · have : l = [] := List.eq_nil_of_length_eq_zero (by omega)
      subst this
      have := h.2 (by simp)
      simp at this
      rw [nv_nil]; omega
theorem Nrm.eq_D {l : List Int} (h : Nrm l) : D (nv l) = l := by
  induction l with
  | nil => exact D_zero
  | cons d l ih =>
    have hp := h.pos (by simp)
    have h1 := h.1 d (by simp)
    rw [D_pos hp, nv_cons]
    have e1 : (d + 1048576 * nv l) % 1048576 = d := by omega
    have e2 : (d + 1048576 * nv l) / 1048576 = nv l := by omega
    rw [e1, e2, ih h.tail]
theorem Nrm_D (z : Int) : Nrm (D z) := by
  refine D_ind (P := fun z => Nrm (D z)) (fun z h => ?_) (fun z h ih => ?_) z
  · rw [D_np h]; exact Nrm.nil
  · refine ⟨Dig_D z, fun _ => ?_⟩
    rw [D_pos h]
    simp only [List.length_cons, Nat.add_sub_cancel]
    by_cases hz : z / 1048576 ≤ 0
    · rw [D_np hz]
      simp
      omega
    · rw [D_pos (by omega)] at ih ⊢
      have := ih.2 (by simp)
      simpa using this
theorem D_inj {a b : Int} (ha : 0 ≤ a) (hb : 0 ≤ b) (h : D a = D b) : a = b := by rw [← nv_D ha, ← nv_D hb, h]

theorem D_len_le {z : Int} (h : 0 ≤ z) {k : Nat} : (D z).length ≤ k ↔ z < pw k := by
  constructor
  · intro hk
    have h1 := (Dig_D z).nv_lt
    rw [nv_D h] at h1
    have := pw_le hk
    omega
  · revert k
    refine D_ind (P := fun z => ∀ {k : Nat}, z < pw k → (D z).length ≤ k) (fun z h k _ => ?_) (fun z h ih k hk => ?_) z
    · rw [D_np h]; simp
    · cases k with
      | zero => rw [pw_zero] at hk; omega
      | succ k =>
        rw [pw_succ] at hk
        rw [D_pos h, List.length_cons]
        have := @ih k (by omega)
        omega
theorem D_len_lt {z : Int} (h : 0 ≤ z) {k : Nat} : k < (D z).length ↔ pw k ≤ z := by
  have := @D_len_le z h k
  omega
theorem D_len_pos {z : Int} (h : 0 < z) : 0 < (D z).length := by rw [D_pos h]; simp

/-- Digits without the zeros at their end. -/
theorem D_take {l : List Int} (h : Dig l) {k : Nat} (hk : k ≤ l.length) (hv : nv (l.take k) = nv l) (hl : 0 < k → l.getD (k - 1) 0 ≠ 0) : l.take k = D (nv l) := by
  rw [← hv]
  refine (Nrm.eq_D ⟨h.take k, fun h0 => ?_⟩).symm
  rw [List.length_take, Nat.min_eq_left hk] at h0 ⊢
  have := hl h0
  rw [List.getD_eq_getElem?_getD] at this ⊢
  rwa [List.getElem?_take_of_lt (by omega)]

/-- What comes of digits to which others are added behind, and a carry. -/
theorem D_split {l : List Int} (h : Dig l) {c : Int} (hc : 0 < c) : D (nv l + pw l.length * c) = l ++ D c := by
  have h1 : Nrm (l ++ D c) := by
    refine ⟨h.append (Dig_D c), fun _ => ?_⟩
    have hn := Nrm_D c
    have hp := D_len_pos hc
    have := hn.2 hp
    rw [List.length_append]
    rw [List.getD_eq_getElem?_getD] at this ⊢
    rw [List.getElem?_append_right (by omega)]
    have e : l.length + (D c).length - 1 - l.length = (D c).length - 1 := by omega
    rw [e]; exact this
  have h2 := h1.eq_D
  rw [nv_append, nv_D (by omega)] at h2
  exact h2

/-- Values behind and before a place. -/
theorem nv_split (l : List Int) (k : Nat) (hk : k ≤ l.length) : nv l = nv (l.take k) + pw k * nv (l.drop k) := by
  have := nv_append (l.take k) (l.drop k)
  rw [List.take_append_drop, List.length_take, Nat.min_eq_left hk] at this
  exact this
theorem nv_replicate (n : Nat) : nv (List.replicate n 0) = 0 := by
  induction n with
  | zero => rfl
  | succ n ih => rw [List.replicate_succ, nv_cons, ih]; rfl
theorem Dig_replicate (n : Nat) : Dig (List.replicate n 0) := fun d hd => by
  have := (List.mem_replicate.1 hd).2; subst this; decide

/-- Comparing from the end. -/
theorem nv_lt_of {a b : List Int} (ha : Dig a) (hb : Dig b) (hl : a.length = b.length) {k : Nat} (hk : k < a.length) (he : a.drop (k + 1) = b.drop (k + 1)) (hd : a.getD k 0 < b.getD k 0) : nv a < nv b := by
  have h1 := nv_split a (k + 1) (by omega)
  have h2 := nv_split b (k + 1) (by omega)
  rw [nv_take_succ hk] at h1
  rw [nv_take_succ (by omega)] at h2
  have h3 := (ha.take k).nv_lt
  have h4 := (hb.take k).nv_nonneg
  rw [List.length_take, Nat.min_eq_left (by omega)] at h3
  have h5 : pw k * (a.getD k 0 + 1) ≤ pw k * b.getD k 0 := Int.mul_le_mul_of_nonneg_left (by omega) (by have := pw_pos k; omega)
  rw [Int.mul_add, Int.mul_one] at h5
  rw [he] at h1
  omega

end Go.Proofs.Yteiojobgjdfdpaa
