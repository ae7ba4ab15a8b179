/- Plain: lists of digits to the base 2^20, their value, and the digits of a number. No program. Memory: slices of ints: those that are read, and those that the call owns. Walks: trim, carried. Walks: scale, combine. Walks: combine. Walks: divideShort, split. -/
import Derived.Below
import Derived.OwnWalk
import Derived.Test.YtlbjaimgoiimgaaRows
import Derived.WalkKit
import Derived.WalkSpells
import Derived.WalkLawsBesides
import Derived.Lib.Hide
import Derived.Laws.OwnMore
import Derived.Laws.BitsLemmas
import Derived.Deep.Onto
import Derived.Laws.Bits64b

namespace Go.Proofs.Ytlbjaimgoiimgaa
open Go.RowKit

/-- The value of a list of digits, the lowest one first. -/
def nv : List Int → Int
  | [] => 0
  | d :: l => d + 1048576 * nv l

def pw (k : Nat) : Int := 1048576 ^ k

theorem pw_zero : pw 0 = 1 := rfl
theorem pw_succ (k : Nat) : pw (k + 1) = 1048576 * pw k := by unfold pw; rw [Int.pow_succ, Int.mul_comm]
theorem pw_pos (k : Nat) : 0 < pw k := by
  induction k with
  | zero => decide
  | succ k ih => rw [pw_succ]; omega
theorem pw_add (a b : Nat) : pw (a + b) = pw a * pw b := by unfold pw; rw [Int.pow_add]
theorem pw_one : pw 1 = 1048576 := rfl
theorem pw_le {a b : Nat} (h : a ≤ b) : pw a ≤ pw b := by
  obtain ⟨c, rfl⟩ := Nat.le.dest h
  rw [pw_add]
  have := pw_pos a
  have := pw_pos c
  calc pw a = pw a * 1 := by rw [Int.mul_one]
    _ ≤ pw a * pw c := Int.mul_le_mul_of_nonneg_left (by omega) (by omega)

theorem nv_nil : nv [] = 0 := rfl
theorem nv_cons (d : Int) (l : List Int) : nv (d :: l) = d + 1048576 * nv l := rfl
theorem nv_append (a b : List Int) : nv (a ++ b) = nv a + pw a.length * nv b := by
  induction a with
  | nil => simp [nv, pw]
  | cons d a ih =>
    rw [List.cons_append, nv_cons, nv_cons, ih, List.length_cons, pw_succ, Int.mul_add, Int.mul_assoc]
    omega
theorem nv_snoc (l : List Int) (d : Int) : nv (l ++ [d]) = nv l + pw l.length * d := by
  rw [nv_append, nv_cons, nv_nil, Int.mul_zero, Int.add_zero]

theorem take_snoc {l : List Int} {k : Nat} (h : k < l.length) : l.take (k + 1) = l.take k ++ [l.getD k 0] := by
  rw [List.take_succ_eq_append_getElem h, List.getD_eq_getElem?_getD, List.getElem?_eq_getElem h]; rfl
theorem nv_take_succ {l : List Int} {k : Nat} (h : k < l.length) : nv (l.take (k + 1)) = nv (l.take k) + pw k * l.getD k 0 := by
  rw [take_snoc h, nv_snoc, List.length_take, Nat.min_eq_left (by omega)]
theorem nv_take_all (l : List Int) {k : Nat} (h : l.length ≤ k) : nv (l.take k) = nv l := by rw [List.take_of_length_le h]

def Dig (l : List Int) : Prop := ∀ d ∈ l, 0 ≤ d ∧ d < 1048576
theorem Dig.nil : Dig [] := fun d h => by cases h
theorem Dig.getD {l : List Int} (h : Dig l) {k : Nat} (hk : k < l.length) : 0 ≤ l.getD k 0 ∧ l.getD k 0 < 1048576 := by
  rw [List.getD_eq_getElem?_getD, List.getElem?_eq_getElem hk]
  exact h _ (List.getElem_mem hk)
theorem Dig.getD' {l : List Int} (h : Dig l) (k : Nat) : 0 ≤ l.getD k 0 ∧ l.getD k 0 < 1048576 := by
  rcases Nat.lt_or_ge k l.length with hk | hk
  · exact h.getD hk
  · rw [List.getD_eq_getElem?_getD, List.getElem?_eq_none hk]; decide
theorem Dig.of_getD {l : List Int} (h : ∀ k, k < l.length → 0 ≤ l.getD k 0 ∧ l.getD k 0 < 1048576) : Dig l := by
  intro d hd
  obtain ⟨k, hk, rfl⟩ := List.getElem_of_mem hd
  have := h k hk
  rw [List.getD_eq_getElem?_getD, List.getElem?_eq_getElem hk] at this
  exact this
theorem Dig.take {l : List Int} (h : Dig l) (k : Nat) : Dig (l.take k) := fun d hd => h d (List.mem_of_mem_take hd)
theorem Dig.drop {l : List Int} (h : Dig l) (k : Nat) : Dig (l.drop k) := fun d hd => h d (List.mem_of_mem_drop hd)
theorem Dig.append {a b : List Int} (ha : Dig a) (hb : Dig b) : Dig (a ++ b) := fun d hd => by
  rcases List.mem_append.1 hd with h | h
  · exact ha d h
  · exact hb d h
theorem Dig.snoc {a : List Int} (ha : Dig a) {d : Int} (h0 : 0 ≤ d) (h1 : d < 1048576) : Dig (a ++ [d]) :=
  ha.append fun x hx => by simp at hx; subst hx; exact ⟨h0, h1⟩
theorem Dig.tail {d : Int} {l : List Int} (h : Dig (d :: l)) : Dig l := fun x hx => h x (List.mem_cons_of_mem _ hx)

theorem Dig.nv_nonneg {l : List Int} (h : Dig l) : 0 ≤ nv l := by
  induction l with
  | nil => decide
  | cons d l ih =>
    have := ih h.tail
    have := h d (by simp)
    rw [nv_cons]; omega
theorem Dig.nv_lt {l : List Int} (h : Dig l) : nv l < pw l.length := by
  induction l with
  | nil => decide
  | cons d l ih =>
    have := ih h.tail
    have := h d (by simp)
    rw [nv_cons, List.length_cons, pw_succ]; omega

/-- The digits of a number that is not negative. -/
def D (z : Int) : List Int := if h : z ≤ 0 then [] else z % 1048576 :: D (z / 1048576)
termination_by z.toNat
decreasing_by omega

theorem D_zero : D 0 = [] := by rw [D, dif_pos (by omega)]
theorem D_pos {z : Int} (h : 0 < z) : D z = z % 1048576 :: D (z / 1048576) := by rw [D, dif_neg (by omega)]
theorem D_np {z : Int} (h : z ≤ 0) : D z = [] := by rw [D, dif_pos h]

theorem D_ind {P : Int → Prop} (h0 : ∀ z, z ≤ 0 → P z) (hs : ∀ z, 0 < z → P (z / 1048576) → P z) (z : Int) : P z := by
  have key : ∀ n : Nat, ∀ z : Int, z ≤ n → P z := by
    intro n
    induction n with
    | zero => intro z hz; exact h0 z (by omega)
    | succ n ih =>
      intro z hz
      by_cases h : z ≤ 0
      · exact h0 z h
      · exact hs z (by omega) (ih _ (by omega))
  exact key z.toNat z (by omega)

theorem nv_D {z : Int} (h : 0 ≤ z) : nv (D z) = z := by
  revert h
  refine D_ind (P := fun z => 0 ≤ z → nv (D z) = z) (fun z h h0 => ?_) (fun z h ih h0 => ?_) z
  · rw [D_np h, nv_nil]; omega
  · rw [D_pos h, nv_cons, ih (by omega)]; omega
theorem Dig_D (z : Int) : Dig (D z) := by
  refine D_ind (P := fun z => Dig (D z)) (fun z h => ?_) (fun z h ih => ?_) z
  · rw [D_np h]; exact Dig.nil
  · rw [D_pos h]
    intro d hd
    rcases List.mem_cons.1 hd with rfl | hd
    · omega
    · exact ih d hd

/-- A list of digits with no zero at its end is the digits of its value. -/
def Nrm (l : List Int) : Prop := Dig l ∧ (0 < l.length → l.getD (l.length - 1) 0 ≠ 0)

theorem Nrm.nil : Nrm [] := ⟨Dig.nil, fun h => by cases h⟩
theorem Nrm.tail {d : Int} {l : List Int} (h : Nrm (d :: l)) : Nrm l := by
  refine ⟨h.1.tail, fun hl => ?_⟩
  have := h.2 (by simp)
  simp only [List.length_cons, Nat.add_sub_cancel] at this
  obtain ⟨m, hm⟩ : ∃ m, l.length = m + 1 := ⟨l.length - 1, by omega⟩
  rw [hm] at this ⊢
  simpa using this
theorem Nrm.pos {l : List Int} (h : Nrm l) (hl : 0 < l.length) : 0 < nv l := by
  induction l with
  | nil => cases hl
  | cons d l ih =>
    have h1 := h.1 d (by simp)
    rw [nv_cons]
    by_cases he : 0 < l.length
    · have := ih h.tail he; omega
    · have : l = [] := List.eq_nil_of_length_eq_zero (by omega)
      subst this
      have := h.2 (by simp)
      simp at this
      rw [nv_nil]; omega
theorem Nrm.eq_D {l : List Int} (h : Nrm l) : D (nv l) = l := by
  induction l with
  | nil => exact D_zero
  | cons d l ih =>
    have hp := h.pos (by simp)
    have h1 := h.1 d (by simp)
    rw [D_pos hp, nv_cons]
    have e1 : (d + 1048576 * nv l) % 1048576 = d := by omega
    have e2 : (d + 1048576 * nv l) / 1048576 = nv l := by omega
    rw [e1, e2, ih h.tail]
theorem Nrm_D (z : Int) : Nrm (D z) := by
  refine D_ind (P := fun z => Nrm (D z)) (fun z h => ?_) (fun z h ih => ?_) z
  · rw [D_np h]; exact Nrm.nil
  · refine ⟨Dig_D z, fun _ => ?_⟩
    rw [D_pos h]
    simp only [List.length_cons, Nat.add_sub_cancel]
    by_cases hz : z / 1048576 ≤ 0
    · rw [D_np hz]
      simp
      omega
    · rw [D_pos (by omega)] at ih ⊢
      have := ih.2 (by simp)
      simpa using this
theorem D_inj {a b : Int} (ha : 0 ≤ a) (hb : 0 ≤ b) (h : D a = D b) : a = b := by rw [← nv_D ha, ← nv_D hb, h]

theorem D_len_le {z : Int} (h : 0 ≤ z) {k : Nat} : (D z).length ≤ k ↔ z < pw k := by
  constructor
  · intro hk
    have h1 := (Dig_D z).nv_lt
    rw [nv_D h] at h1
    have := pw_le hk
    omega
  · revert k
    refine D_ind (P := fun z => ∀ {k : Nat}, z < pw k → (D z).length ≤ k) (fun z h k _ => ?_) (fun z h ih k hk => ?_) z
    · rw [D_np h]; simp
    · cases k with
      | zero => rw [pw_zero] at hk; omega
      | succ k =>
        rw [pw_succ] at hk
        rw [D_pos h, List.length_cons]
        have := @ih k (by omega)
        omega
theorem D_len_lt {z : Int} (h : 0 ≤ z) {k : Nat} : k < (D z).length ↔ pw k ≤ z := by
  have := @D_len_le z h k
  omega
theorem D_len_pos {z : Int} (h : 0 < z) : 0 < (D z).length := by rw [D_pos h]; simp

/-- Digits without the zeros at their end. -/
theorem D_take {l : List Int} (h : Dig l) {k : Nat} (hk : k ≤ l.length) (hv : nv (l.take k) = nv l) (hl : 0 < k → l.getD (k - 1) 0 ≠ 0) : l.take k = D (nv l) := by
  rw [← hv]
  refine (Nrm.eq_D ⟨h.take k, fun h0 => ?_⟩).symm
  rw [List.length_take, Nat.min_eq_left hk] at h0 ⊢
  have := hl h0
  rw [List.getD_eq_getElem?_getD] at this ⊢
  rwa [List.getElem?_take_of_lt (by omega)]

/-- What comes of digits to which others are added behind, and a carry. -/
theorem D_split {l : List Int} (h : Dig l) {c : Int} (hc : 0 < c) : D (nv l + pw l.length * c) = l ++ D c := by
  have h1 : Nrm (l ++ D c) := by
    refine ⟨h.append (Dig_D c), fun _ => ?_⟩
    have hn := Nrm_D c
    have hp := D_len_pos hc
    have := hn.2 hp
    rw [List.length_append]
    rw [List.getD_eq_getElem?_getD] at this ⊢
    rw [List.getElem?_append_right (by omega)]
    have e : l.length + (D c).length - 1 - l.length = (D c).length - 1 := by omega
    rw [e]; exact this
  have h2 := h1.eq_D
  rw [nv_append, nv_D (by omega)] at h2
  exact h2

/-- Values behind and before a place. -/
theorem nv_split (l : List Int) (k : Nat) (hk : k ≤ l.length) : nv l = nv (l.take k) + pw k * nv (l.drop k) := by
  have := nv_append (l.take k) (l.drop k)
  rw [List.take_append_drop, List.length_take, Nat.min_eq_left hk] at this
  exact this
theorem nv_replicate (n : Nat) : nv (List.replicate n 0) = 0 := by
  induction n with
  | zero => rfl
  | succ n ih => rw [List.replicate_succ, nv_cons, ih]; rfl
theorem Dig_replicate (n : Nat) : Dig (List.replicate n 0) := fun d hd => by
  have := (List.mem_replicate.1 hd).2; subst this; decide

/-- Comparing from the end. -/
theorem nv_lt_of {a b : List Int} (ha : Dig a) (hb : Dig b) (hl : a.length = b.length) {k : Nat} (hk : k < a.length) (he : a.drop (k + 1) = b.drop (k + 1)) (hd : a.getD k 0 < b.getD k 0) : nv a < nv b := by
  have h1 := nv_split a (k + 1) (by omega)
  have h2 := nv_split b (k + 1) (by omega)
  rw [nv_take_succ hk] at h1
  rw [nv_take_succ (by omega)] at h2
  have h3 := (ha.take k).nv_lt
  have h4 := (hb.take k).nv_nonneg
  rw [List.length_take, Nat.min_eq_left (by omega)] at h3
  have h5 : pw k * (a.getD k 0 + 1) ≤ pw k * b.getD k 0 := Int.mul_le_mul_of_nonneg_left (by omega) (by have := pw_pos k; omega)
  rw [Int.mul_add, Int.mul_one] at h5
  rw [he] at h1
  omega

end Go.Proofs.Ytlbjaimgoiimgaa

namespace Go.Proofs.Ytlbjaimgoiimgaa
open Go.RowKit

theorem Try.info3 : (Try.prog.info? 3).map (fun i => (i.zero, i.size, i.bytes)) = some (some (.int .i64 0), 1, 8) := by kernel_rfl

/-- The ints of a slice at address a, in blocks below B. -/
def IntsAt (B : Nat) (w : World) (a : Option Addr) (zs : List Int) : Prop :=
  ∀ k, k < zs.length → ∃ b off, a = some ⟨b, off, none⟩ ∧ b < B ∧ w.cell? ⟨b, off + k, none⟩ = some (.int .i64 (zs.getD k 0))

theorem IntsAt.nil (B : Nat) (w : World) (a : Option Addr) : IntsAt B w a [] := fun k hk => by cases hk
theorem IntsAt.below {B : Nat} {w w' : World} {a : Option Addr} {zs : List Int} (h : IntsAt B w a zs) (hb : Below B w w') : IntsAt B w' a zs := fun k hk => by
  obtain ⟨b, off, e, hB, hc⟩ := h k hk
  exact ⟨b, off, e, hB, (hb.cell (p := ⟨b, off + k, none⟩) hB).trans hc⟩
theorem IntsAt.more {B B' : Nat} {w : World} {a : Option Addr} {zs : List Int} (h : IntsAt B w a zs) (hb : B ≤ B') : IntsAt B' w a zs := fun k hk => by
  obtain ⟨b, off, e, hB, hc⟩ := h k hk
  exact ⟨b, off, e, by omega, hc⟩

/-- A slice value v with the ints l, owned from block B on. -/
def OwnI (w : World) (B : Nat) (v : Value) (l : List Int) : Prop := w.ownsRow B 3 1 v l.length (l.map (Value.int .i64))

section
variable {w w' : World} {B B' : Nat} {v : Value} {l : List Int}
theorem OwnI.nil (w : World) (B : Nat) : OwnI w B (.slice none 0 0) [] := World.ownsRow_nil w B 3 1
theorem OwnI.below (h : OwnI w B v l) (hb : Below w.heap.size w w') : OwnI w' B v l :=
  World.ownsRow.kept (row := none) h ⟨hb.os, hb.tape, hb.output, hb.size, fun k hk _ => hb.block k hk⟩ (by cases v.ownBlock <;> simp)
theorem OwnI.mono (h : OwnI w B v l) (hb : B' ≤ B) : OwnI w B' v l := World.ownsRow.mono h hb
theorem OwnI.form (h : OwnI w B v l) : ∃ A c, v = .slice A l.length c := by
  rcases h.2 with ⟨rfl, hn⟩ | ⟨g, cap, cur, rfl, hb, hg, hnc, hcm, hcs, htake⟩
  · exact ⟨none, 0, by rw [hn]⟩
  · exact ⟨_, cap, rfl⟩
theorem OwnI.ints (h : OwnI w B v l) : ∃ a cap, v = .slice a l.length cap ∧ IntsAt w.heap.size w a l := by
  rcases h.2 with ⟨rfl, hn⟩ | ⟨g, cap, cur, rfl, hb, hg, hnc, hcm, hcs, htake⟩
  · have : l = [] := List.eq_nil_of_length_eq_zero hn
    subst this
    exact ⟨none, 0, rfl, fun k hk => by cases hk⟩
  · refine ⟨_, cap, rfl, fun k hk => ⟨g, 0, rfl, (Array.getElem?_eq_some_iff.1 hg).1, ?_⟩⟩
    rw [Nat.zero_add, World.ownsRow.cellAt h k (by omega), List.getElem?_map, List.getElem?_eq_getElem hk, List.getD_eq_getElem?_getD, List.getElem?_eq_getElem hk]
    rfl
theorem OwnI.at_ (h : OwnI w B v l) : ∃ A c, v = .slice A l.length c ∧ l.length ≤ c ∧ c ≤ 9223372036854775807 ∧ IntsAt w.heap.size w A l := by
  obtain ⟨a, cap, e, hI⟩ := h.ints
  refine ⟨a, cap, e, ?_, ?_, hI⟩
  all_goals
    rcases h.2 with ⟨hv, hn⟩ | ⟨g, cap', cur, hv, hb, hg, hnc, hcm, hcs, htake⟩
    all_goals
      rw [e] at hv
      injection hv with e1 e2 e3
      try unfold maxLen at hcm
      omega
theorem OwnI.cell {g n cap k : Nat} (h : OwnI w B (.slice (some ⟨g, 0, none⟩) n cap) l) (hn : l.length = n) (hk : k < n) : w.cell? ⟨g, k, none⟩ = some (.int .i64 (l.getD k 0)) := by
  subst hn
  rw [World.ownsRow.cellAt h k (by omega), List.getElem?_map, List.getElem?_eq_getElem hk, List.getD_eq_getElem?_getD, List.getElem?_eq_getElem hk]
  rfl
theorem OwnI.frozen {g n cap k : Nat} (h : OwnI w B (.slice (some ⟨g, 0, none⟩) n cap) l) (hn : l.length = n) : w.frozen? ⟨g, k, none⟩ = false := by
  subst hn
  exact World.ownsRow.frozenAt h k
theorem OwnI.store {g n cap : Nat} (h : OwnI w B (.slice (some ⟨g, 0, none⟩) n cap) l) (hn : l.length = n) (k : Nat) (z : Int) : OwnI (w.setCell ⟨g, k, none⟩ (.int .i64 z)) B (.slice (some ⟨g, 0, none⟩) n cap) (l.set k z) := by
  subst hn
  have := (World.ownsRow.stored h k (.int .i64 z)).1
  unfold OwnI
  rw [List.length_set, List.map_set]
  exact this
theorem OwnI.lt {g n cap : Nat} (h : OwnI w B (.slice (some ⟨g, 0, none⟩) n cap) l) : B ≤ g ∧ g < w.heap.size := World.ownsRow.lt h g rfl
/-- The first of its ints alone. -/
theorem OwnI.cut {A : Option Addr} {n cap k : Nat} (h : OwnI w B (.slice A n cap) l) (hn : l.length = n) (hk : k ≤ n) : OwnI w B (.slice A k cap) (l.take k) := by
  subst hn
  have hl : (l.take k).length = k := by rw [List.length_take]; omega
  unfold OwnI
  rw [hl]
  refine ⟨by simp; omega, ?_⟩
  rcases h.2 with ⟨hv, hn⟩ | ⟨g, cap', cur, hv, hb, hg, hnc, hcm, hcs, htake⟩
  · injection hv with e1 e2 e3
    subst e1; subst e3
    exact .inl ⟨by rw [show k = 0 by omega], by omega⟩
  · injection hv with e1 e2 e3
    subst e1; subst e3
    refine .inr ⟨g, cap, cur, rfl, hb, hg, by omega, hcm, hcs, ?_⟩
    have h3 : (cur.toList.take (l.length * 1)).take (k * 1) = (l.map (Value.int .i64)).take (k * 1) := by rw [htake]
    rw [List.take_take, Nat.min_eq_left (by omega)] at h3
    rw [h3, Nat.mul_one, List.map_take]
end

theorem appI {w : World} {ops : Array Oper} {rest : List Oper} {o : Oper} {a : Act} {Q : Exit → Act → World → Prop} (hgd : o.guard = none) (s x : Operand)
    (ho : o.op = .call { callee := .builtin .append, args := #[s, x], argTypes := #[36, 36] })
    (B : Nat) (v : Value) (l : List Int) (c : Int) (hs : a.eval s = v) (hown : OwnI w B v l)
    (hx : a.eval x = .slice (some ⟨w.heap.size, 0, none⟩) 1 1) (hb : l.length ≤ 10000000) (hbase : B ≤ w.heap.size)
    (h : ∀ v' w', OwnI w' B v' (l ++ [c]) → Below B w w' → wpList Try.prog ops Q rest (a.put o.dst v') w') : wpList Try.prog ops Q (o :: rest) a (w.alloc (.cells #[.int .i64 c] 3)) := by
  obtain ⟨i0, hi, hz0, hz1, hz2⟩ := info_parts Try.info3
  refine wpList_append_own _ hgd s x 36 ho B 3 i0 (.int .i64 0) 1 8 Try.underlying36 hi hz0 hz1 hz2 rfl (by decide) _ _ _ hs (World.ownsRow.alloc hown _) ⟨w.heap.size, 0, none⟩ 1 1 [.int .i64 c] hx rfl ?_ ?_ ?_ ?_ ?_ ?_
  · intro j u hj; match j, hj with | 0, hj => simp at hj; subst hj; simp [Addr.add]
  · intro u hu; simp at hu; subst hu; rfl
  · unfold maxLen; omega
  · omega
  · simp; omega
  · intro v' w1 hown' hgrow _
    refine h v' w1 ?_ ?_
    · unfold OwnI
      rw [List.length_append, List.map_append]
      exact hown'
    · exact ((Below.refl B w).alloc hbase _).grown hgrow (by simp; omega) (fun k hk => (World.ownsRow.lt hown k hk).1)

/-- make([]int, n, c). -/
theorem makeI {w : World} {ops : Array Oper} {rest : List Oper} {o : Oper} {a : Act} {Q : Exit → Act → World → Prop} (hgd : o.guard = none) (l c : Operand)
    (ho : o.op = Op.makeSlice 36 l c) (B n m : Nat) (L C : Int) (hl : a.eval l = .int .i64 L) (hc : a.eval c = .int .i64 C) (hL : L = n) (hC : C = m) (hnm : n ≤ m) (hm : m ≤ 10000000) (hbase : B ≤ w.heap.size)
    (h : ∀ w', OwnI w' B (.slice (some ⟨w.heap.size, 0, none⟩) n m) (List.replicate n 0) → Below B w w' → w'.heap.size = w.heap.size + 1 → wpList Try.prog ops Q rest (a.put o.dst (.slice (some ⟨w.heap.size, 0, none⟩) n m)) w') : wpList Try.prog ops Q (o :: rest) a w := by
  obtain ⟨i0, hi, hz0, hz1, hz2⟩ := info_parts Try.info3
  subst hL; subst hC
  have hr := run_make (P := Try.prog) w 36 3 i0 (.int .i64 0) Try.underlying36 hi hz0 .i64 .i64 (n : Int) (m : Int) (by omega) (by omega) (by rw [hz2]; omega) (by omega)
  simp only [Int.toNat_natCast] at hr
  refine wpList_plain hgd fun K hK' => ?_
  unfold Oper.wp
  simp [execOp, ho, hl, hc, hr, Result.andThen]
  refine hK' _ _ (h _ ?_ ((Below.refl B w).alloc hbase _) (by simp))
  have hcut := OwnI.cut (w := w.alloc (.cells (madeCells (Value.int .i64 0).cells (m * i0.size)) 3)) (B := B) (A := some ⟨w.heap.size, 0, none⟩) (n := m) (cap := m) (k := n) (l := List.replicate m 0) ?_ (by simp) hnm
  · rw [List.take_replicate, Nat.min_eq_left hnm] at hcut
    exact hcut
  · unfold OwnI
    rw [hz1, Nat.mul_one, List.length_replicate]
    have := World.ownsRow_lit (e := 3) (size := 1) (base := B) w (madeCells (Value.int .i64 0).cells m) m hbase (by unfold maxLen; omega) (by rw [size_madeCells]; omega)
    have e : (madeCells (Value.int .i64 0).cells m).toList = (List.replicate m (0 : Int)).map (Value.int .i64) := by
      unfold madeCells
      simp only [Value.cells, List.map_replicate]
      apply List.ext_getElem
      · simp
      · intro i h1 h2
        simp [Nat.mod_one]
    rw [e] at this
    exact this

theorem and_low (x : Int) : bits BinOp.and IntKind.i64 x 1048575 = x % 1048576 := by
  obtain ⟨a, ha⟩ : ∃ a : Nat, x % 18446744073709551616 = a := ⟨(x % 18446744073709551616).toNat, by omega⟩
  have h2 : (BitVec.ofInt 64 x).toNat = a := by rw [BitVec.toNat_ofInt]; show (x % 18446744073709551616).toNat = a; omega
  have h3 : (BitVec.ofInt 64 1048575).toNat = 1048575 := by decide
  have h4 : a &&& 1048575 = a % 1048576 := Nat.and_two_pow_sub_one_eq_mod a 20
  have h5 : (BitVec.ofInt 64 x &&& BitVec.ofInt 64 1048575).toNat = a % 1048576 := by rw [BitVec.toNat_and, h2, h3, h4]
  have h6 : bits BinOp.and IntKind.i64 x 1048575 = IntKind.i64.wrap ((BitVec.ofInt 64 x &&& BitVec.ofInt 64 1048575).toNat : Int) := rfl
  rw [h6, h5, IntKind.wrap_i64]
  omega

end Go.Proofs.Ytlbjaimgoiimgaa

namespace Go.Proofs.Ytlbjaimgoiimgaa
open Go.RowKit

theorem trim_any (l : List Int) (v : Value) (w : World) (B : Nat) (h : OwnI w B v l) (hd : Dig l) (hl : l.length ≤ 1000000) :
    Calls Try.prog 89 #[v] w fun e w' => ∃ v', e = .returned v' ∧ OwnI w' B v' (D (nv l)) ∧ w = w' := by
  obtain ⟨A, c, rfl, hnc, _, hI⟩ := h.at_
  obtain ⟨n, hn⟩ : ∃ n, l.length = n := ⟨_, rfl⟩
  have hnn : l.length ≤ n ∧ n ≤ l.length := by omega
  rw [hn] at h hl hnc ⊢
  have HN := Lib.hid hn; clear hn
  go_enter Try.func89, Try.ntmps89
  go_wp2_with fail
  go_loop [3] (fun k => ∃ m : Nat, m ≤ n ∧ k = .int .i64 m ∧ Hid (nv (l.take m) = nv l)) (fun k => (intOf k).toNat)
  case atStart => exact ⟨n, Nat.le_refl _, rfl, Lib.hid (nv_take_all l (by omega))⟩
  case round =>
    obtain ⟨m, hm, rfl, hv⟩ := hrel
    by_cases h0 : 0 < m
    · obtain ⟨b, off, hA, _, hc⟩ := hI (m - 1) (by omega)
      subst hA
      obtain ⟨d, hd⟩ : ∃ d, l.getD (m - 1) 0 = d := ⟨_, rfl⟩
      rw [hd] at hc
      have HD := Lib.hid hd; clear hd
      by_cases hz : d = 0
      · subst hz
        go_wp2_with fail
        go_round
        case rel => exact ⟨m - 1, by omega, by congr 1; omega, Lib.hid (by
          have h1 := hv.out
          obtain ⟨j, rfl⟩ : ∃ j, m = j + 1 := ⟨m - 1, by omega⟩
          rw [nv_take_succ (by omega)] at h1
          have h2 := HD.out
          rw [Nat.add_sub_cancel] at h2 ⊢
          rw [h2, Int.mul_zero, Int.add_zero] at h1
          exact h1)⟩
        case measure => simp [intOf]; omega
      · have hz' : (d == 0) = false := by simpa using hz
        go_wp2_with fail
        go_ret
        refine ⟨_, rfl, ?_, rfl⟩
        rw [← D_take hd (k := m) (by omega) hv.out (fun _ => by rw [HD.out]; exact hz)]
        exact h.cut HN.out hm
    · have : m = 0 := by omega
      subst this
      go_wp2_with fail
      go_ret
      refine ⟨_, rfl, ?_, rfl⟩
      rw [← D_take hd (k := 0) (by omega) hv.out (fun h => by cases h)]
      exact h.cut HN.out hm

theorem carried_any (l : List Int) (c : Int) (v : Value) (w : World) (B : Nat) (h : OwnI w B v l) (hd : Dig l) (hB : B ≤ w.heap.size) (h0 : 0 ≤ c) (h1 : c < 9223372036854775807) (hZ : nv l + pw l.length * c < pw 1000) (hl : l.length ≤ 1000) :
    Calls Try.prog 91 #[v, .int .i64 c] w fun e w' => ∃ v', e = .returned v' ∧ OwnI w' B v' (D (nv l + pw l.length * c)) ∧ Below B w w' := by
  have HZ := Lib.hid hZ; clear hZ
  go_enter Try.func91, Try.ntmps91
  go_wp2_with fail
  go_loopw [0, 1] (fun d k wr => ∃ (l' : List Int) (c' : Int), k = .int .i64 c' ∧ 0 ≤ c' ∧ c' < 9223372036854775807 ∧ OwnI wr B d l' ∧ Dig l' ∧ Below B w wr ∧ l'.length ≤ 1000 ∧ Hid (nv l' + pw l'.length * c' = nv l + pw l.length * c)) (fun _ k _ => (intOf k).toNat)
  case atStart => exact ⟨l, c, rfl, h0, h1, h, hd, Below.refl _ _, hl, Lib.hid rfl⟩
  case round =>
    obtain ⟨l', c', rfl, hc0, hc1, hown, hdig, hb, hl', hv⟩ := hrel
    have hs := hb.size
    by_cases hp : 0 < c'
    · have hl2 : l'.length < 1000 := by
        have e1 := hv.out
        have e2 := HZ.out
        rw [← e1] at e2
        have e3 := hdig.nv_nonneg
        have e4 : pw l'.length * 1 ≤ pw l'.length * c' := Int.mul_le_mul_of_nonneg_left (by omega) (by have := pw_pos l'.length; omega)
        rcases Nat.lt_or_ge l'.length 1000 with h | h
        · exact h
        · have := pw_le h
          omega
      go_wp2_with (first
        | (at_builtin; refine appI rfl (.tmp 9) (.tmp 12) rfl B _ l' (bits BinOp.and IntKind.i64 c' 1048575) rfl hown rfl (by omega) (by omega) ?_; intro v1 w1 hown1 hb1))
      rw [and_low] at hown1
      go_roundw
      case rel => exact ⟨_, _, rfl, by omega, by omega, hown1, hdig.snoc (by omega) (by omega), hb.trans hb1, by simp; omega, Lib.hid (by
        rw [← hv.out, nv_snoc, List.length_append, List.length_singleton, pw_succ, Int.mul_comm 1048576, Int.mul_assoc, Int.add_assoc, ← Int.mul_add]
        congr 2; omega)⟩
      case measure => simp [intOf]; omega
    · have : c' = 0 := by omega
      subst this
      go_wp2_with fail
      refine (trim_any l' _ _ B hown hdig (by omega)).mono ?_
      rintro e w1 ⟨v1, rfl, hown1, rfl⟩
      go_wp2_with fail
      go_ret
      exact ⟨_, rfl, by rw [← hv.out, Int.mul_zero, Int.add_zero]; exact hown1, hb⟩

end Go.Proofs.Ytlbjaimgoiimgaa

namespace Go.Proofs.Ytlbjaimgoiimgaa
open Go.RowKit

theorem take_set_succ {l : List Int} {k : Nat} (h : k < l.length) (z : Int) : (l.set k z).take (k + 1) = l.take k ++ [z] := by
  rw [List.take_succ_eq_append_getElem (by simpa using h), List.getElem_set_self, List.take_set_of_le (Nat.le_refl k)]
theorem nv_take_succ' (l : List Int) (k : Nat) : nv (l.take (k + 1)) = nv (l.take k) + pw k * l.getD k 0 := by
  rcases Nat.lt_or_ge k l.length with h | h
  · exact nv_take_succ h
  · rw [nv_take_all l (by omega), nv_take_all l h, List.getD_eq_getElem?_getD, List.getElem?_eq_none h]
    simp
theorem mul_bd {x d M : Int} (h0 : -M ≤ x) (h1 : x ≤ M) (d0 : 0 ≤ d) (d1 : d ≤ 1048575) (hM : 0 ≤ M) : -(M * 1048575) ≤ x * d ∧ x * d ≤ M * 1048575 := by
  have a1 : x * d ≤ M * d := Int.mul_le_mul_of_nonneg_right h1 d0
  have a2 : M * d ≤ M * 1048575 := Int.mul_le_mul_of_nonneg_left d1 hM
  have a3 : -M * d ≤ x * d := Int.mul_le_mul_of_nonneg_right h0 d0
  rw [Int.neg_mul] at a3
  omega

set_option maxHeartbeats 400000 in
theorem scale_any (l : List Int) (A : Option Addr) (cA : Nat) (f c : Int) (w : World) (hI : IntsAt w.heap.size w A l) (hd : Dig l) (hl : l.length ≤ 200) (hf0 : 0 ≤ f) (hf1 : f ≤ 1099511627776) (hc0 : 0 ≤ c) (hc1 : c ≤ 1099511627776) :
    Calls Try.prog 90 #[.slice A l.length cA, .int .i64 f, .int .i64 c] w fun e w' => ∃ v', e = .returned v' ∧ OwnI w' w.heap.size v' (D (f * nv l + c)) ∧ Below w.heap.size w w' := by
  obtain ⟨n, hn⟩ : ∃ n, l.length = n := ⟨_, rfl⟩
  have hnn : l.length ≤ n ∧ n ≤ l.length := by omega
  have hZ : f * nv l + c < pw 1000 := by
    have h1 := hd.nv_lt
    have h0 := hd.nv_nonneg
    have h2 : f * nv l ≤ 1099511627776 * nv l := Int.mul_le_mul_of_nonneg_right hf1 h0
    have h3 := pw_le (a := l.length) (b := 200) hl
    have h4 : pw 1000 = pw 800 * pw 200 := pw_add 800 200
    have h5 : pw 3 * pw 200 ≤ pw 800 * pw 200 := Int.mul_le_mul_of_nonneg_right (pw_le (by omega)) (by have := pw_pos 200; omega)
    have h6 : pw 3 = 1152921504606846976 := by decide
    rw [h6] at h5
    have := pw_pos 200
    omega
  rw [hn] at hl ⊢
  have HN := Lib.hid hn; clear hn
  have HZ := Lib.hid hZ; clear hZ
  go_enter Try.func90, Try.ntmps90
  go_wp2_with (at_make; refine makeI rfl (.tmp 11) (.tmp 14) rfl w.heap.size n (n + 2) _ _ rfl rfl rfl (by omega) (by omega) (by omega) (Nat.le_refl _) ?_; intro w0 hown0 hb0 hsz0)
  have hlt0 := hown0.lt.2
  go_loopw [2, 18] (fun cc i wr => ∃ (k : Nat) (c' : Int) (rs : List Int), k ≤ n ∧ i = .int .i64 k ∧ cc = .int .i64 c' ∧ 0 ≤ c' ∧ c' ≤ 2199023255552 ∧ Hid (rs.length = n) ∧ OwnI wr w.heap.size (.slice (some ⟨w.heap.size, 0, none⟩) n (n + 2)) rs ∧ Dig (rs.take k) ∧ Hid (nv (rs.take k) + pw k * c' = f * nv (l.take k) + c) ∧ Below w.heap.size w wr) (fun _ i _ => n - (intOf i).toNat)
  case atStart => exact ⟨0, c, List.replicate n 0, Nat.zero_le _, rfl, rfl, hc0, by omega, Lib.hid (by simp), hown0, Dig.nil, Lib.hid (by simp [nv, pw]), hb0⟩
  case round =>
    obtain ⟨k, c', rs, hk, rfl, rfl, h0, h1, hrl, hown, hdg, hv, hb⟩ := hrel
    have hs := hb.size
    by_cases hlt : k < n
    · obtain ⟨b, off, hA, hbB, hc⟩ := hI k (by omega)
      subst hA
      have hd1 := hd.getD (k := k) (by omega)
      have hc := (hb.cell (p := ⟨b, off + k, none⟩) hbB).trans hc
      obtain ⟨d, hdd⟩ : ∃ d, l.getD k 0 = d := ⟨_, rfl⟩
      rw [hdd] at hc hd1
      have HD := Lib.hid hdd; clear hdd
      have hm := mul_bd (x := f) (d := d) (M := 1099511627776) (by omega) hf1 hd1.1 (by omega) (by omega)
      have hm0 : 0 ≤ f * d := Int.mul_nonneg hf0 hd1.1
      have hfc := hown.cell hrl.out hlt
      have hff := hown.frozen (k := k) hrl.out
      obtain ⟨u, hu⟩ : ∃ u, rs.getD k 0 = u := ⟨_, rfl⟩
      rw [hu] at hfc
      clear hu
      go_wp2_with fail
      go_roundw
      case rel => exact ⟨k + 1, _, rs.set k ((c' + f * d) % 1048576), by omega, by go_num, rfl, by omega, by omega, Lib.hid (by simp [hrl.out]), by first | exact hown.store hrl.out k _ | (rw [and_low]; exact hown.store hrl.out k _), by
          rw [take_set_succ (by rw [hrl.out]; exact hlt)]; exact hdg.snoc (by omega) (by omega), Lib.hid (by
          have hkl : (rs.take k).length = k := by rw [List.length_take, hrl.out]; omega
          rw [take_set_succ (by rw [hrl.out]; exact hlt), nv_snoc, hkl, nv_take_succ' l, HD.out, pw_succ, Int.mul_comm 1048576, Int.mul_assoc, Int.add_assoc, ← Int.mul_add]
          have e1 : (c' + f * d) % 1048576 + 1048576 * ((c' + f * d) / 1048576) = c' + f * d := by omega
          rw [e1, Int.mul_add, ← Int.add_assoc, hv.out, Int.mul_add]
          have e2 : pw k * (f * d) = f * (pw k * d) := by rw [← Int.mul_assoc, Int.mul_comm (pw k) f, Int.mul_assoc]
          rw [e2]; omega), by exact hb.setCell (p := ⟨w.heap.size, k, none⟩) (Nat.le_refl _) _⟩
      case measure => simp [intOf]; omega
    · have hkn : k = n := by omega
      subst hkn
      have hv' := hv.out
      rw [List.take_of_length_le (Nat.le_of_eq hrl.out), List.take_of_length_le (Nat.le_of_eq HN.out)] at hv'
      rw [List.take_of_length_le (Nat.le_of_eq hrl.out)] at hdg
      have hv2 : nv rs + pw rs.length * c' = f * nv l + c := by rw [hrl.out]; exact hv'
      have HV := Lib.hid hv2; clear hv2 hv'
      go_wp2_with fail
      refine (carried_any rs c' _ _ w.heap.size hown hdg hs h0 (by omega) (by rw [HV.out]; exact HZ.out) (by rw [hrl.out]; omega)).mono ?_
      rintro e w1 ⟨v1, rfl, hown1, hb1⟩
      go_wp2_with fail
      go_ret
      exact ⟨_, rfl, by rw [← HV.out]; exact hown1, hb.trans hb1⟩

end Go.Proofs.Ytlbjaimgoiimgaa

namespace Go.Proofs.Ytlbjaimgoiimgaa
open Go.RowKit

theorem getD_out {l : List Int} {k : Nat} (h : l.length ≤ k) : l.getD k 0 = 0 := by
  rw [List.getD_eq_getElem?_getD, List.getElem?_eq_none h]; rfl

theorem comb_step {P a b x y ta tb tr c' u : Int} (h : tr + P * c' = x * ta + y * tb) (hu : u = c' + x * a + y * b) :
    tr + P * (u % 1048576) + 1048576 * P * (u / 1048576) = x * (ta + P * a) + y * (tb + P * b) := by
  have e1 : u % 1048576 + 1048576 * (u / 1048576) = u := by omega
  rw [Int.mul_comm 1048576 P, Int.mul_assoc, Int.add_assoc, ← Int.mul_add, e1, hu, Int.mul_add, Int.mul_add, Int.mul_add, Int.mul_add]
  have e2 : P * (x * a) = x * (P * a) := by rw [← Int.mul_assoc, Int.mul_comm P x, Int.mul_assoc]
  have e3 : P * (y * b) = y * (P * b) := by rw [← Int.mul_assoc, Int.mul_comm P y, Int.mul_assoc]
  rw [e2, e3]
  omega

theorem comb_bd {la lb : List Int} {x y : Int} (hda : Dig la) (hdb : Dig lb) (hla : la.length ≤ 200) (hlb : lb.length ≤ 200) (hx1 : x ≤ 2199023255552) (hy1 : y ≤ 2199023255552) : x * nv la + y * nv lb < pw 1000 := by
  have h1 := hda.nv_lt
  have h0 := hda.nv_nonneg
  have h1' := hdb.nv_lt
  have h0' := hdb.nv_nonneg
  have h2 : x * nv la ≤ 2199023255552 * nv la := Int.mul_le_mul_of_nonneg_right hx1 h0
  have h2' : y * nv lb ≤ 2199023255552 * nv lb := Int.mul_le_mul_of_nonneg_right hy1 h0'
  have h3 := pw_le (a := la.length) (b := 200) hla
  have h3' := pw_le (a := lb.length) (b := 200) hlb
  have h4 : pw 1000 = pw 800 * pw 200 := pw_add 800 200
  have h5 : pw 3 * pw 200 ≤ pw 800 * pw 200 := Int.mul_le_mul_of_nonneg_right (pw_le (by omega)) (by have := pw_pos 200; omega)
  have h6 : pw 3 = 1152921504606846976 := by decide
  rw [h6] at h5
  have := pw_pos 200
  omega

set_option maxRecDepth 100000 in
set_option maxHeartbeats 1000000 in
theorem combine_lt (la lb : List Int) (Aa Ab : Option Addr) (ca cb : Nat) (x y : Int) (w : World) (hIa : IntsAt w.heap.size w Aa la) (hIb : IntsAt w.heap.size w Ab lb) (hda : Dig la) (hdb : Dig lb) (hla : la.length ≤ 200) (hlb : lb.length ≤ 200)
    (hx0 : -2199023255552 ≤ x) (hx1 : x ≤ 2199023255552) (hy0 : -2199023255552 ≤ y) (hy1 : y ≤ 2199023255552) (hp : 0 ≤ x * nv la + y * nv lb) (hle : la.length < lb.length) :
    Calls Try.prog 76 #[.slice Aa la.length ca, .int .i64 x, .slice Ab lb.length cb, .int .i64 y] w fun e w' => ∃ v', e = .returned v' ∧ OwnI w' w.heap.size v' (D (x * nv la + y * nv lb)) ∧ Below w.heap.size w w' := by
  obtain ⟨na, hna⟩ : ∃ n, la.length = n := ⟨_, rfl⟩
  obtain ⟨nb, hnb⟩ : ∃ n, lb.length = n := ⟨_, rfl⟩
  have hza : la.length ≤ na ∧ na ≤ la.length := by omega
  have hzb : lb.length ≤ nb ∧ nb ≤ lb.length := by omega
  have hZ := comb_bd hda hdb hla hlb hx1 hy1
  rw [hna] at hla ⊢
  rw [hnb] at hlb ⊢
  rw [hna, hnb] at hle
  have HNA := Lib.hid hna; clear hna
  have HNB := Lib.hid hnb; clear hnb
  have HZ := Lib.hid hZ; clear hZ
  have HP := Lib.hid hp; clear hp
  go_enter Try.func76, Try.ntmps76
  go_wp2_with (at_make; refine makeI rfl (.tmp 18) (.tmp 20) rfl w.heap.size nb (nb + 1) _ _ rfl rfl rfl (by omega) (by omega) (by omega) (Nat.le_refl _) ?_; intro w0 hown0 hb0 hsz0)
  have hlt0 := hown0.lt.2
  go_loopw [11, 23] (fun cc i wr => ∃ (k : Nat) (c' : Int) (rs : List Int), k ≤ nb ∧ i = .int .i64 k ∧ cc = .int .i64 c' ∧ -8796093022208 ≤ c' ∧ c' ≤ 8796093022208 ∧ Hid (rs.length = nb) ∧ OwnI wr w.heap.size (.slice (some ⟨w.heap.size, 0, none⟩) nb (nb + 1)) rs ∧ Dig (rs.take k) ∧ Hid (nv (rs.take k) + pw k * c' = x * nv (la.take k) + y * nv (lb.take k)) ∧ Below w.heap.size w wr) (fun _ i _ => nb - (intOf i).toNat)
  case atStart => exact ⟨0, 0, List.replicate nb 0, Nat.zero_le _, rfl, rfl, by omega, by omega, Lib.hid (by simp), hown0, Dig.nil, Lib.hid (by simp [nv]), hb0⟩
  case round =>
    obtain ⟨k, c', rs, hk, rfl, rfl, h0, h1, hrl, hown, hdg, hv, hb⟩ := hrel
    have hs := hb.size
    by_cases hlt : k < nb
    · have hda1 := hda.getD' k
      have hdb1 := hdb.getD' k
      have hca : k < na → ∃ b off, Aa = some ⟨b, off, none⟩ ∧ wr.cell? ⟨b, off + k, none⟩ = some (.int .i64 (la.getD k 0)) := fun h => by
        obtain ⟨b, off, hA, hbB, hc⟩ := hIa k (by omega)
        exact ⟨b, off, hA, (hb.cell (p := ⟨b, off + k, none⟩) hbB).trans hc⟩
      have hcb : k < nb → ∃ b off, Ab = some ⟨b, off, none⟩ ∧ wr.cell? ⟨b, off + k, none⟩ = some (.int .i64 (lb.getD k 0)) := fun h => by
        obtain ⟨b, off, hA, hbB, hc⟩ := hIb k (by omega)
        exact ⟨b, off, hA, (hb.cell (p := ⟨b, off + k, none⟩) hbB).trans hc⟩
      have hza' : na ≤ k → la.getD k 0 = 0 := fun h => getD_out (by omega)
      have hzb' : nb ≤ k → lb.getD k 0 = 0 := fun h => getD_out (by omega)
      have hstep := fun u => comb_step (P := pw k) (a := la.getD k 0) (b := lb.getD k 0) (u := u) hv.out
      rw [← nv_take_succ', ← nv_take_succ'] at hstep
      obtain ⟨da, hdda⟩ : ∃ d, la.getD k 0 = d := ⟨_, rfl⟩
      obtain ⟨db, hddb⟩ : ∃ d, lb.getD k 0 = d := ⟨_, rfl⟩
      rw [hdda] at hca hda1 hza' hstep
      rw [hddb] at hcb hdb1 hzb' hstep
      clear hdda hddb
      have hma := mul_bd (x := x) (d := da) (M := 2199023255552) hx0 hx1 hda1.1 (by omega) (by omega)
      have hmb := mul_bd (x := y) (d := db) (M := 2199023255552) hy0 hy1 hdb1.1 (by omega) (by omega)
      have hfc := hown.cell hrl.out hlt
      have hff := hown.frozen (k := k) hrl.out
      obtain ⟨u, hu⟩ : ∃ u, rs.getD k 0 = u := ⟨_, rfl⟩
      rw [hu] at hfc
      clear hu
      have HS := Lib.hid hstep; clear hstep
      have HZA := Lib.hid hza'; clear hza'
      have HZB := Lib.hid hzb'; clear hzb'
      have key : ∀ t : Int, t = c' + x * da + y * db → OwnI (wr.setCell ⟨w.heap.size, k, none⟩ (.int .i64 (bits BinOp.and IntKind.i64 t 1048575))) w.heap.size (.slice (some ⟨w.heap.size, 0, none⟩) nb (nb + 1)) (rs.set k (t % 1048576)) ∧ Dig ((rs.set k (t % 1048576)).take (k + 1)) ∧ nv ((rs.set k (t % 1048576)).take (k + 1)) + pw (k + 1) * (t / 1048576) = x * nv (la.take (k + 1)) + y * nv (lb.take (k + 1)) ∧ Below w.heap.size w (wr.setCell ⟨w.heap.size, k, none⟩ (.int .i64 (bits BinOp.and IntKind.i64 t 1048575))) := by
        intro t ht
        have hkl : (rs.take k).length = k := by rw [List.length_take, hrl.out]; omega
        refine ⟨by rw [and_low]; exact hown.store hrl.out k _, ?_, ?_, hb.setCell (p := ⟨w.heap.size, k, none⟩) (Nat.le_refl _) _⟩
        · rw [take_set_succ (by rw [hrl.out]; exact hlt)]; exact hdg.snoc (by omega) (by omega)
        · rw [take_set_succ (by rw [hrl.out]; exact hlt), nv_snoc, hkl, pw_succ]
          exact HS.out t ht
      have KEY := Lib.hid key; clear key
      by_cases hka : k < na
      · obtain ⟨b1, off1, hA1, hc1⟩ := hca hka
        subst hA1
        clear hca
        by_cases hkb : k < nb
        · obtain ⟨b2, off2, hA2, hc2⟩ := hcb hkb
          subst hA2
          clear hcb
          go_wp2_with fail
          go_roundw
          case rel =>
            obtain ⟨k1, k2, k3, k4⟩ := KEY.out (c' + x * da + y * db) rfl
            exact ⟨k + 1, _, _, by omega, by go_num, rfl, by omega, by omega, Lib.hid (by simp [hrl.out]), k1, k2, Lib.hid k3, k4⟩
          case measure => simp [intOf]; omega
        · omega
      · clear hca
        by_cases hkb : k < nb
        · obtain ⟨b2, off2, hA2, hc2⟩ := hcb hkb
          subst hA2
          clear hcb
          go_wp2_with fail
          go_roundw
          case rel =>
            obtain ⟨k1, k2, k3, k4⟩ := KEY.out (c' + y * db) (by rw [HZA.out (by omega)]; simp)
            exact ⟨k + 1, _, _, by omega, by go_num, rfl, by omega, by omega, Lib.hid (by simp [hrl.out]), k1, k2, Lib.hid k3, k4⟩
          case measure => simp [intOf]; omega
        · omega
    · have hkn : k = nb := by omega
      subst hkn
      have hv' := hv.out
      rw [List.take_of_length_le (Nat.le_of_eq hrl.out), List.take_of_length_le (l := la) (by omega), List.take_of_length_le (l := lb) (by omega)] at hv'
      rw [List.take_of_length_le (Nat.le_of_eq hrl.out)] at hdg
      have hv2 : nv rs + pw rs.length * c' = x * nv la + y * nv lb := by rw [hrl.out]; exact hv'
      have hc0 : 0 ≤ c' := by
        have h1 := HP.out
        rw [← hv2] at h1
        have h2 := hdg.nv_lt
        rcases Int.lt_or_le c' 0 with h | h
        · have h3 : pw rs.length * c' ≤ pw rs.length * (-1) := Int.mul_le_mul_of_nonneg_left (by omega) (by have := pw_pos rs.length; omega)
          omega
        · exact h
      have HV := Lib.hid hv2; clear hv2 hv'
      go_wp2_with fail
      refine (carried_any rs c' _ _ w.heap.size hown hdg hs hc0 (by omega) (by rw [HV.out]; exact HZ.out) (by rw [hrl.out]; omega)).mono ?_
      rintro e w1 ⟨v1, rfl, hown1, hb1⟩
      go_wp2_with fail
      go_ret
      exact ⟨_, rfl, by rw [← HV.out]; exact hown1, hb.trans hb1⟩

set_option maxRecDepth 100000 in
set_option maxHeartbeats 1000000 in
theorem combine_ge (la lb : List Int) (Aa Ab : Option Addr) (ca cb : Nat) (x y : Int) (w : World) (hIa : IntsAt w.heap.size w Aa la) (hIb : IntsAt w.heap.size w Ab lb) (hda : Dig la) (hdb : Dig lb) (hla : la.length ≤ 200) (hlb : lb.length ≤ 200)
    (hx0 : -2199023255552 ≤ x) (hx1 : x ≤ 2199023255552) (hy0 : -2199023255552 ≤ y) (hy1 : y ≤ 2199023255552) (hp : 0 ≤ x * nv la + y * nv lb) (hle : lb.length ≤ la.length) :
    Calls Try.prog 76 #[.slice Aa la.length ca, .int .i64 x, .slice Ab lb.length cb, .int .i64 y] w fun e w' => ∃ v', e = .returned v' ∧ OwnI w' w.heap.size v' (D (x * nv la + y * nv lb)) ∧ Below w.heap.size w w' := by
  obtain ⟨na, hna⟩ : ∃ n, la.length = n := ⟨_, rfl⟩
  obtain ⟨nb, hnb⟩ : ∃ n, lb.length = n := ⟨_, rfl⟩
  have hza : la.length ≤ na ∧ na ≤ la.length := by omega
  have hzb : lb.length ≤ nb ∧ nb ≤ lb.length := by omega
  have hZ := comb_bd hda hdb hla hlb hx1 hy1
  rw [hna] at hla ⊢
  rw [hnb] at hlb ⊢
  rw [hna, hnb] at hle
  have HNA := Lib.hid hna; clear hna
  have HNB := Lib.hid hnb; clear hnb
  have HZ := Lib.hid hZ; clear hZ
  have HP := Lib.hid hp; clear hp
  go_enter Try.func76, Try.ntmps76
  go_wp2_with (at_make; refine makeI rfl (.tmp 18) (.tmp 20) rfl w.heap.size na (na + 1) _ _ rfl rfl rfl (by omega) (by omega) (by omega) (Nat.le_refl _) ?_; intro w0 hown0 hb0 hsz0)
  have hlt0 := hown0.lt.2
  go_loopw [11, 23] (fun cc i wr => ∃ (k : Nat) (c' : Int) (rs : List Int), k ≤ na ∧ i = .int .i64 k ∧ cc = .int .i64 c' ∧ -8796093022208 ≤ c' ∧ c' ≤ 8796093022208 ∧ Hid (rs.length = na) ∧ OwnI wr w.heap.size (.slice (some ⟨w.heap.size, 0, none⟩) na (na + 1)) rs ∧ Dig (rs.take k) ∧ Hid (nv (rs.take k) + pw k * c' = x * nv (la.take k) + y * nv (lb.take k)) ∧ Below w.heap.size w wr) (fun _ i _ => na - (intOf i).toNat)
  case atStart => exact ⟨0, 0, List.replicate na 0, Nat.zero_le _, rfl, rfl, by omega, by omega, Lib.hid (by simp), hown0, Dig.nil, Lib.hid (by simp [nv]), hb0⟩
  case round =>
    obtain ⟨k, c', rs, hk, rfl, rfl, h0, h1, hrl, hown, hdg, hv, hb⟩ := hrel
    have hs := hb.size
    by_cases hlt : k < na
    · have hda1 := hda.getD' k
      have hdb1 := hdb.getD' k
      have hca : k < na → ∃ b off, Aa = some ⟨b, off, none⟩ ∧ wr.cell? ⟨b, off + k, none⟩ = some (.int .i64 (la.getD k 0)) := fun h => by
        obtain ⟨b, off, hA, hbB, hc⟩ := hIa k (by omega)
        exact ⟨b, off, hA, (hb.cell (p := ⟨b, off + k, none⟩) hbB).trans hc⟩
      have hcb : k < nb → ∃ b off, Ab = some ⟨b, off, none⟩ ∧ wr.cell? ⟨b, off + k, none⟩ = some (.int .i64 (lb.getD k 0)) := fun h => by
        obtain ⟨b, off, hA, hbB, hc⟩ := hIb k (by omega)
        exact ⟨b, off, hA, (hb.cell (p := ⟨b, off + k, none⟩) hbB).trans hc⟩
      have hza' : na ≤ k → la.getD k 0 = 0 := fun h => getD_out (by omega)
      have hzb' : nb ≤ k → lb.getD k 0 = 0 := fun h => getD_out (by omega)
      have hstep := fun u => comb_step (P := pw k) (a := la.getD k 0) (b := lb.getD k 0) (u := u) hv.out
      rw [← nv_take_succ', ← nv_take_succ'] at hstep
      obtain ⟨da, hdda⟩ : ∃ d, la.getD k 0 = d := ⟨_, rfl⟩
      obtain ⟨db, hddb⟩ : ∃ d, lb.getD k 0 = d := ⟨_, rfl⟩
      rw [hdda] at hca hda1 hza' hstep
      rw [hddb] at hcb hdb1 hzb' hstep
      clear hdda hddb
      have hma := mul_bd (x := x) (d := da) (M := 2199023255552) hx0 hx1 hda1.1 (by omega) (by omega)
      have hmb := mul_bd (x := y) (d := db) (M := 2199023255552) hy0 hy1 hdb1.1 (by omega) (by omega)
      have hfc := hown.cell hrl.out hlt
      have hff := hown.frozen (k := k) hrl.out
      obtain ⟨u, hu⟩ : ∃ u, rs.getD k 0 = u := ⟨_, rfl⟩
      rw [hu] at hfc
      clear hu
      have HS := Lib.hid hstep; clear hstep
      have HZA := Lib.hid hza'; clear hza'
      have HZB := Lib.hid hzb'; clear hzb'
      have key : ∀ t : Int, t = c' + x * da + y * db → OwnI (wr.setCell ⟨w.heap.size, k, none⟩ (.int .i64 (bits BinOp.and IntKind.i64 t 1048575))) w.heap.size (.slice (some ⟨w.heap.size, 0, none⟩) na (na + 1)) (rs.set k (t % 1048576)) ∧ Dig ((rs.set k (t % 1048576)).take (k + 1)) ∧ nv ((rs.set k (t % 1048576)).take (k + 1)) + pw (k + 1) * (t / 1048576) = x * nv (la.take (k + 1)) + y * nv (lb.take (k + 1)) ∧ Below w.heap.size w (wr.setCell ⟨w.heap.size, k, none⟩ (.int .i64 (bits BinOp.and IntKind.i64 t 1048575))) := by
        intro t ht
        have hkl : (rs.take k).length = k := by rw [List.length_take, hrl.out]; omega
        refine ⟨by rw [and_low]; exact hown.store hrl.out k _, ?_, ?_, hb.setCell (p := ⟨w.heap.size, k, none⟩) (Nat.le_refl _) _⟩
        · rw [take_set_succ (by rw [hrl.out]; exact hlt)]; exact hdg.snoc (by omega) (by omega)
        · rw [take_set_succ (by rw [hrl.out]; exact hlt), nv_snoc, hkl, pw_succ]
          exact HS.out t ht
      have KEY := Lib.hid key; clear key
      by_cases hka : k < na
      · obtain ⟨b1, off1, hA1, hc1⟩ := hca hka
        subst hA1
        clear hca
        by_cases hkb : k < nb
        · obtain ⟨b2, off2, hA2, hc2⟩ := hcb hkb
          subst hA2
          clear hcb
          go_wp2_with fail
          go_roundw
          case rel =>
            obtain ⟨k1, k2, k3, k4⟩ := KEY.out (c' + x * da + y * db) rfl
            exact ⟨k + 1, _, _, by omega, by go_num, rfl, by omega, by omega, Lib.hid (by simp [hrl.out]), k1, k2, Lib.hid k3, k4⟩
          case measure => simp [intOf]; omega
        · clear hcb
          go_wp2_with fail
          go_roundw
          case rel =>
            obtain ⟨k1, k2, k3, k4⟩ := KEY.out (c' + x * da) (by rw [HZB.out (by omega)]; simp)
            exact ⟨k + 1, _, _, by omega, by go_num, rfl, by omega, by omega, Lib.hid (by simp [hrl.out]), k1, k2, Lib.hid k3, k4⟩
          case measure => simp [intOf]; omega
      · omega
    · have hkn : k = na := by omega
      subst hkn
      have hv' := hv.out
      rw [List.take_of_length_le (Nat.le_of_eq hrl.out), List.take_of_length_le (l := la) (by omega), List.take_of_length_le (l := lb) (by omega)] at hv'
      rw [List.take_of_length_le (Nat.le_of_eq hrl.out)] at hdg
      have hv2 : nv rs + pw rs.length * c' = x * nv la + y * nv lb := by rw [hrl.out]; exact hv'
      have hc0 : 0 ≤ c' := by
        have h1 := HP.out
        rw [← hv2] at h1
        have h2 := hdg.nv_lt
        rcases Int.lt_or_le c' 0 with h | h
        · have h3 : pw rs.length * c' ≤ pw rs.length * (-1) := Int.mul_le_mul_of_nonneg_left (by omega) (by have := pw_pos rs.length; omega)
          omega
        · exact h
      have HV := Lib.hid hv2; clear hv2 hv'
      go_wp2_with fail
      refine (carried_any rs c' _ _ w.heap.size hown hdg hs hc0 (by omega) (by rw [HV.out]; exact HZ.out) (by rw [hrl.out]; omega)).mono ?_
      rintro e w1 ⟨v1, rfl, hown1, hb1⟩
      go_wp2_with fail
      go_ret
      exact ⟨_, rfl, by rw [← HV.out]; exact hown1, hb.trans hb1⟩

theorem combine_any (la lb : List Int) (Aa Ab : Option Addr) (ca cb : Nat) (x y : Int) (w : World) (hIa : IntsAt w.heap.size w Aa la) (hIb : IntsAt w.heap.size w Ab lb) (hda : Dig la) (hdb : Dig lb) (hla : la.length ≤ 200) (hlb : lb.length ≤ 200)
    (hx0 : -2199023255552 ≤ x) (hx1 : x ≤ 2199023255552) (hy0 : -2199023255552 ≤ y) (hy1 : y ≤ 2199023255552) (hp : 0 ≤ x * nv la + y * nv lb) :
    Calls Try.prog 76 #[.slice Aa la.length ca, .int .i64 x, .slice Ab lb.length cb, .int .i64 y] w fun e w' => ∃ v', e = .returned v' ∧ OwnI w' w.heap.size v' (D (x * nv la + y * nv lb)) ∧ Below w.heap.size w w' := by
  rcases Nat.lt_or_ge la.length lb.length with h | h
  · exact combine_lt la lb Aa Ab ca cb x y w hIa hIb hda hdb hla hlb hx0 hx1 hy0 hy1 hp h
  · exact combine_ge la lb Aa Ab ca cb x y w hIa hIb hda hdb hla hlb hx0 hx1 hy0 hy1 hp h

end Go.Proofs.Ytlbjaimgoiimgaa

namespace Go.Proofs.Ytlbjaimgoiimgaa
open Go.RowKit

theorem two63 : (2 : Int) ^ 63 = 9223372036854775808 := by decide

theorem or_low {r d : Int} (h0 : 0 ≤ r) (h1 : r < 4398046511104) (d0 : 0 ≤ d) (d1 : d < 1048576) : bits BinOp.or IntKind.i64 (r * 1048576) d = r * 1048576 + d := by
  have e : (2 : Int) ^ 20 = 1048576 := by decide
  exact bits_join .i64 63 (by decide) (fun n h0 h1 => by rw [two63] at h1; rw [IntKind.wrap_i64]; omega) 20 (r * 1048576) d (by omega) (by rw [e]; omega) (by rw [two63]; omega) d0 (by rw [e]; omega) (by rw [two63]; omega)

theorem div_step {f r d q r' t tq : Int} (h : t = f * tq + r) (e : r * 1048576 + d = f * q + r') : d + 1048576 * t = f * (q + 1048576 * tq) + r' := by
  rw [h, Int.mul_add, Int.mul_add, ← Int.mul_assoc 1048576 f, Int.mul_comm 1048576 f, Int.mul_assoc]
  omega

theorem drop_cons {l : List Int} {k : Nat} (h : k < l.length) : l.drop k = l.getD k 0 :: l.drop (k + 1) := by
  rw [List.drop_eq_getElem_cons h, List.getD_eq_getElem?_getD, List.getElem?_eq_getElem h]; rfl
theorem drop_set_eq {l : List Int} {k : Nat} (h : k < l.length) (z : Int) : (l.set k z).drop k = z :: l.drop (k + 1) := by
  rw [List.drop_eq_getElem_cons (by simpa using h), List.getElem_set_self, List.drop_set_of_lt (by omega)]

theorem quo_lt {f r d : Int} (hf : 1 ≤ f) (h0 : 0 ≤ r) (h1 : r < f) (d0 : 0 ≤ d) (d1 : d < 1048576) : 0 ≤ (r * 1048576 + d) / f ∧ (r * 1048576 + d) / f < 1048576 := by
  refine ⟨Int.ediv_nonneg (by omega) (by omega), Int.ediv_lt_of_lt_mul (by omega) ?_⟩
  have : (r + 1) * 1048576 ≤ f * 1048576 := Int.mul_le_mul_of_nonneg_right (by omega) (by omega)
  rw [Int.mul_comm 1048576 f]
  omega

set_option maxHeartbeats 400000 in
theorem divideShort_any (l : List Int) (A : Option Addr) (cA : Nat) (f : Int) (w : World) (hI : IntsAt w.heap.size w A l) (hd : Dig l) (hl : l.length ≤ 200) (hf0 : 1 ≤ f) (hf1 : f ≤ 1099511627776) :
    Calls Try.prog 71 #[.slice A l.length cA, .int .i64 f] w fun e w' => ∃ v', e = .returned (.tuple #[v', .int .i64 (nv l % f)]) ∧ OwnI w' w.heap.size v' (D (nv l / f)) ∧ Below w.heap.size w w' := by
  obtain ⟨n, hn⟩ : ∃ n, l.length = n := ⟨_, rfl⟩
  have hnn : l.length ≤ n ∧ n ≤ l.length := by omega
  rw [hn] at hl ⊢
  have HN := Lib.hid hn; clear hn
  go_enter Try.func71, Try.ntmps71
  go_wp2_with (at_make; refine makeI rfl (.tmp 10) (.tmp 10) rfl w.heap.size n n _ _ rfl rfl rfl rfl (by omega) (by omega) (Nat.le_refl _) ?_; intro w0 hown0 hb0 hsz0)
  have hlt0 := hown0.lt.2
  go_loopw [7, 8] (fun cc i wr => ∃ (k : Nat) (r : Int) (qs : List Int), k ≤ n ∧ i = .int .i64 (k - 1) ∧ cc = .int .i64 r ∧ 0 ≤ r ∧ r < f ∧ Hid (qs.length = n) ∧ OwnI wr w.heap.size (.slice (some ⟨w.heap.size, 0, none⟩) n n) qs ∧ Dig (qs.drop k) ∧ Hid (nv (l.drop k) = f * nv (qs.drop k) + r) ∧ Below w.heap.size w wr) (fun _ i _ => (intOf i + 1).toNat)
  case atStart => exact ⟨n, 0, List.replicate n 0, Nat.le_refl _, rfl, rfl, by omega, by omega, Lib.hid (by simp), hown0, by (rw [List.drop_of_length_le (by simp)]; exact Dig.nil), Lib.hid (by rw [List.drop_of_length_le (by omega), List.drop_of_length_le (by simp)]; simp [nv]), hb0⟩
  case round =>
    obtain ⟨k, r, qs, hk, rfl, rfl, h0, h1, hql, hown, hdg, hv, hb⟩ := hrel
    have hs := hb.size
    by_cases hlt : 0 < k
    · obtain ⟨j, rfl⟩ : ∃ j, k = j + 1 := ⟨k - 1, by omega⟩
      obtain ⟨b, off, hA, hbB, hc⟩ := hI j (by omega)
      subst hA
      have hd1 := hd.getD (k := j) (by omega)
      have hc := (hb.cell (p := ⟨b, off + j, none⟩) hbB).trans hc
      have hdc := drop_cons (l := l) (k := j) (by omega)
      obtain ⟨d, hdd⟩ : ∃ d, l.getD j 0 = d := ⟨_, rfl⟩
      rw [hdd] at hc hd1 hdc
      clear hdd
      have HDC := Lib.hid hdc; clear hdc
      have hfc := hown.cell (k := j) hql.out (by omega)
      have hff := hown.frozen (k := j) hql.out
      obtain ⟨u, hu⟩ : ∃ u, qs.getD j 0 = u := ⟨_, rfl⟩
      rw [hu] at hfc
      clear hu
      have hor := or_low (r := r) (d := d) h0 (by omega) hd1.1 hd1.2
      have hq := quo_lt hf0 h0 h1 hd1.1 hd1.2
      have hm0 := Int.emod_nonneg (r * 1048576 + d) (b := f) (by omega)
      have hm1 := Int.emod_lt_of_pos (r * 1048576 + d) (b := f) (by omega)
      have hz : (f == 0) = false := by simp; omega
      have HR := Lib.hid (Int.mul_ediv_add_emod (r * 1048576 + d) f)
      go_wp2_with fail
      go_roundw
      case rel => exact ⟨j, _, qs.set j ((r * 1048576 + d) / f), by omega, by first | rfl | (congr 1; omega), rfl, hm0, hm1, Lib.hid (by simp [hql.out]), hown.store hql.out j _, by
          rw [drop_set_eq (by rw [hql.out]; omega)]
          intro x hx
          rcases List.mem_cons.1 hx with rfl | hx
          · exact hq
          · exact hdg x hx, Lib.hid (by
          rw [drop_set_eq (by rw [hql.out]; omega), HDC.out, nv_cons, nv_cons]
          exact div_step hv.out HR.out.symm), by exact hb.setCell (p := ⟨w.heap.size, j, none⟩) (Nat.le_refl _) _⟩
      case measure => simp [intOf]
    · have : k = 0 := by omega
      subst this
      have hv' := hv.out
      rw [List.drop_zero, List.drop_zero] at hv'
      rw [List.drop_zero] at hdg
      have hq : nv l / f = nv qs ∧ nv l % f = r := by
        rw [hv', Int.add_comm]
        exact ⟨by rw [Int.add_mul_ediv_left _ _ (by omega), Int.ediv_eq_zero_of_lt h0 h1, Int.zero_add], by rw [Int.add_mul_emod_self_left, Int.emod_eq_of_lt h0 h1]⟩
      have HQ := Lib.hid hq; clear hv' hq
      go_wp2_with (refine (trim_any qs _ _ w.heap.size hown hdg (by rw [hql.out]; omega)).mono ?_; rintro e w1 ⟨v1, rfl, hown1, rfl⟩)
      go_ret2
      rw [HQ.out.1, HQ.out.2]
      exact ⟨_, rfl, hown1, hb⟩

theorem split_any (z : Int) (w : World) (h0 : 0 ≤ z) (h1 : z < 18446744073709551616) :
    Calls Try.prog 51 #[.int .u64 z] w fun e w' => ∃ v', e = .returned v' ∧ OwnI w' w.heap.size v' (D z) ∧ Below w.heap.size w w' := by
  go_enter Try.func51, Try.ntmps51
  go_wp2_with fail
  go_loopw [0, 3] (fun x d wr => ∃ (l' : List Int) (c' : Int), x = .int .u64 c' ∧ 0 ≤ c' ∧ c' < 18446744073709551616 ∧ OwnI wr w.heap.size d l' ∧ l'.length ≤ 4 ∧ Hid (D z = l' ++ D c') ∧ Hid (nv l' + pw l'.length * c' = z) ∧ Dig l' ∧ Below w.heap.size w wr) (fun x _ _ => (intOf x).toNat)
  case atStart => exact ⟨[], z, rfl, h0, h1, OwnI.nil _ _, by simp, Lib.hid rfl, Lib.hid (by simp [nv, pw]), Dig.nil, Below.refl _ _⟩
  case round =>
    obtain ⟨l', c', rfl, hc0, hc1, hown, hl, hD, hv, hdg, hb⟩ := hrel
    have hs := hb.size
    by_cases hp : 0 < c'
    · have hl3 : l'.length < 4 := by
        rcases Nat.lt_or_ge l'.length 4 with h | h
        · exact h
        · have e : l'.length = 4 := by omega
          have e1 := hv.out
          rw [e] at e1
          have e2 : pw 4 = 1208925819614629174706176 := by decide
          rw [e2] at e1
          have := hdg.nv_nonneg
          omega
      have hand : bits BinOp.and IntKind.u64 c' 1048575 = c' % 1048576 := by
        have h := bits_and_u64_nat c'.toNat 1048575 (by omega) (by omega)
        rw [show c'.toNat &&& 1048575 = c'.toNat % 1048576 from Nat.and_two_pow_sub_one_eq_mod _ 20, Int.toNat_of_nonneg hc0] at h
        have h2 : ((c'.toNat % 1048576 : Nat) : Int) = c' % 1048576 := by omega
        exact h.trans h2
      go_wp2_with (first
        | (at_builtin; refine appI rfl (.tmp 8) (.tmp 12) rfl w.heap.size _ l' (c' % 1048576) rfl hown rfl (by omega) (by omega) ?_; intro v1 w1 hown1 hb1))
      go_roundw
      case rel => exact ⟨_, _, rfl, by omega, by omega, hown1, by simp; omega, Lib.hid (by rw [hD.out, D_pos hp]; simp), Lib.hid (by
        rw [← hv.out, nv_snoc, List.length_append, List.length_singleton, pw_succ, Int.mul_comm 1048576, Int.mul_assoc, Int.add_assoc, ← Int.mul_add]
        congr 2; omega), hdg.snoc (by omega) (by omega), hb.trans hb1⟩
      case measure => simp [intOf]; omega
    · have : c' = 0 := by omega
      subst this
      go_wp2_with fail
      go_ret
      exact ⟨_, rfl, by rw [hD.out, D_zero, List.append_nil]; exact hown, hb⟩

end Go.Proofs.Ytlbjaimgoiimgaa
