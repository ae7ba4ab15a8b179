/- Plain: lists of digits to the base 2^20, their value, and the digits of a number. No program. Memory: slices of ints: those that are read, and those that the call owns. Walks: trim, carried. -/
import Derived.Below
import Derived.OwnWalk
import Derived.Test.YtgpmmpajnfbecaaGreatRows
import Derived.WalkKit
import Derived.WalkSpells
import Derived.WalkLawsBesides
import Derived.Lib.Hide
import Derived.Laws.OwnMore
import Derived.Laws.BitsLemmas
import Derived.Deep.Onto

namespace Go.Proofs.YtgpmmpajnfbecaaGreat
open Go.RowKit

/-- The value of a list of digits, the lowest one first. -/
def nv : List Int → Int
  | [] => 0
  | d :: l => d + 1048576 * nv l

def pw (k : Nat) : Int := 1048576 ^ k

theorem pw_zero : pw 0 = 1 := rfl
theorem pw_succ (k : Nat) : pw (k + 1) = 1048576 * pw k := by unfold pw; rw [Int.pow_succ, Int.mul_comm]
theorem pw_pos (k : Nat) : 0 < pw k := by
  induction k with
  | zero => decide
  | succ k ih => rw [pw_succ]; omega
theorem pw_add (a b : Nat) : pw (a + b) = pw a * pw b := by unfold pw; rw [Int.pow_add]
theorem pw_one : pw 1 = 1048576 := rfl
theorem pw_le {a b : Nat} (h : a ≤ b) : pw a ≤ pw b := by
  obtain ⟨c, rfl⟩ := Nat.le.dest h
  rw [pw_add]
  have := pw_pos a
  have := pw_pos c
  calc pw a = pw a * 1 := by rw [Int.mul_one]
    _ ≤ pw a * pw c := Int.mul_le_mul_of_nonneg_left (by omega) (by omega)

theorem nv_nil : nv [] = 0 := rfl
theorem nv_cons (d : Int) (l : List Int) : nv (d :: l) = d + 1048576 * nv l := rfl
theorem nv_append (a b : List Int) : nv (a ++ b) = nv a + pw a.length * nv b := by
  induction a with
  | nil => simp [nv, pw]
  | cons d a ih =>
    rw [List.cons_append, nv_cons, nv_cons, ih, List.length_cons, pw_succ, Int.mul_add, Int.mul_assoc]
    omega
theorem nv_snoc (l : List Int) (d : Int) : nv (l ++ [d]) = nv l + pw l.length * d := by
  rw [nv_append, nv_cons, nv_nil, Int.mul_zero, Int.add_zero]

theorem take_snoc {l : List Int} {k : Nat} (h : k < l.length) : l.take (k + 1) = l.take k ++ [l.getD k 0] := by
  rw [List.take_succ_eq_append_getElem h, List.getD_eq_getElem?_getD, List.getElem?_eq_getElem h]; rfl
theorem nv_take_succ {l : List Int} {k : Nat} (h : k < l.length) : nv (l.take (k + 1)) = nv (l.take k) + pw k * l.getD k 0 := by
  rw [take_snoc h, nv_snoc, List.length_take, Nat.min_eq_left (by omega)]
theorem nv_take_all (l : List Int) {k : Nat} (h : l.length ≤ k) : nv (l.take k) = nv l := by rw [List.take_of_length_le h]

def Dig (l : List Int) : Prop := ∀ d ∈ l, 0 ≤ d ∧ d < 1048576
theorem Dig.nil : Dig [] := fun d h => by cases h
theorem Dig.getD {l : List Int} (h : Dig l) {k : Nat} (hk : k < l.length) : 0 ≤ l.getD k 0 ∧ l.getD k 0 < 1048576 := by
  rw [List.getD_eq_getElem?_getD, List.getElem?_eq_getElem hk]
  exact h _ (List.getElem_mem hk)
theorem Dig.getD' {l : List Int} (h : Dig l) (k : Nat) : 0 ≤ l.getD k 0 ∧ l.getD k 0 < 1048576 := by
  rcases Nat.lt_or_ge k l.length with hk | hk
  · exact h.getD hk
  · rw [List.getD_eq_getElem?_getD, List.getElem?_eq_none hk]; decide
theorem Dig.of_getD {l : List Int} (h : ∀ k, k < l.length → 0 ≤ l.getD k 0 ∧ l.getD k 0 < 1048576) : Dig l := by
  intro d hd
  obtain ⟨k, hk, rfl⟩ := List.getElem_of_mem hd
  have := h k hk
  rw [List.getD_eq_getElem?_getD, List.getElem?_eq_getElem hk] at this
  exact this
theorem Dig.take {l : List Int} (h : Dig l) (k : Nat) : Dig (l.take k) := fun d hd => h d (List.mem_of_mem_take hd)
theorem Dig.drop {l : List Int} (h : Dig l) (k : Nat) : Dig (l.drop k) := fun d hd => h d (List.mem_of_mem_drop hd)
theorem Dig.append {a b : List Int} (ha : Dig a) (hb : Dig b) : Dig (a ++ b) := fun d hd => by
  rcases List.mem_append.1 hd with h | h
  · exact ha d h
  · exact hb d h
theorem Dig.snoc {a : List Int} (ha : Dig a) {d : Int} (h0 : 0 ≤ d) (h1 : d < 1048576) : Dig (a ++ [d]) :=
  ha.append fun x hx => by simp at hx; subst hx; exact ⟨h0, h1⟩
theorem Dig.tail {d : Int} {l : List Int} (h : Dig (d :: l)) : Dig l := fun x hx => h x (List.mem_cons_of_mem _ hx)

theorem Dig.nv_nonneg {l : List Int} (h : Dig l) : 0 ≤ nv l := by
  induction l with
  | nil => decide
  | cons d l ih =>
    have := ih h.tail
    have := h d (by simp)
    rw [nv_cons]; omega
theorem Dig.nv_lt {l : List Int} (h : Dig l) : nv l < pw l.length := by
  induction l with
  | nil => decide
  | cons d l ih =>
    have := ih h.tail
    have := h d (by simp)
    rw [nv_cons, List.length_cons, pw_succ]; omega

/-- The digits of a number that is not negative. -/
def D (z : Int) : List Int := if h : z ≤ 0 then [] else z % 1048576 :: D (z / 1048576)
termination_by z.toNat
decreasing_by omega

theorem D_zero : D 0 = [] := by rw [D, dif_pos (by omega)]
theorem D_pos {z : Int} (h : 0 < z) : D z = z % 1048576 :: D (z / 1048576) := by rw [D, dif_neg (by omega)]
theorem D_np {z : Int} (h : z ≤ 0) : D z = [] := by rw [D, dif_pos h]

theorem D_ind {P : Int → Prop} (h0 : ∀ z, z ≤ 0 → P z) (hs : ∀ z, 0 < z → P (z / 1048576) → P z) (z : Int) : P z := by
  have key : ∀ n : Nat, ∀ z : Int, z ≤ n → P z := by
    intro n
    induction n with
    | zero => intro z hz; exact h0 z (by omega)
    | succ n ih =>
      intro z hz
      by_cases h : z ≤ 0
      · exact h0 z h
      · exact hs z (by omega) (ih _ (by omega))
  exact key z.toNat z (by omega)

theorem nv_D {z : Int} (h : 0 ≤ z) : nv (D z) = z := by
  revert h
  refine D_ind (P := fun z => 0 ≤ z → nv (D z) = z) (fun z h h0 => ?_) (fun z h ih h0 => ?_) z
  · rw [D_np h, nv_nil]; omega
  · rw [D_pos h, nv_cons, ih (by omega)]; omega
theorem Dig_D (z : Int) : Dig (D z) := by
  refine D_ind (P := fun z => Dig (D z)) (fun z h => ?_) (fun z h ih => ?_) z
  · rw [D_np h]; exact Dig.nil
  · rw [D_pos h]
    intro d hd
    rcases List.mem_cons.1 hd with rfl | hd
    · omega
    · exact ih d hd

/-- A list of digits with no zero at its end is the digits of its value. -/
def Nrm (l : List Int) : Prop := Dig l ∧ (0 < l.length → l.getD (l.length - 1) 0 ≠ 0)

theorem Nrm.nil : Nrm [] := ⟨Dig.nil, fun h => by cases h⟩
theorem Nrm.tail {d : Int} {l : List Int} (h : Nrm (d :: l)) : Nrm l := by
  refine ⟨h.1.tail, fun hl => ?_⟩
  have := h.2 (by simp)
  simp only [List.length_cons, Nat.add_sub_cancel] at this
  obtain ⟨m, hm⟩ : ∃ m, l.length = m + 1 := ⟨l.length - 1, by omega⟩
  rw [hm] at this ⊢
  simpa using this
theorem Nrm.pos {l : List Int} (h : Nrm l) (hl : 0 < l.length) : 0 < nv l := by
  induction l with
  | nil => cases hl
  | cons d l ih =>
    have h1 := h.1 d (by simp)
    rw [nv_cons]
    by_cases he : 0 < l.length
    · have := ih h.tail he; omega
    · have : l = [] := List.eq_nil_of_length_eq_zero (by omega)
      subst this
      have := h.2 (by simp)
      simp at this
      rw [nv_nil]; omega
theorem Nrm.eq_D {l : List Int} (h : Nrm l) : D (nv l) = l := by
  induction l with
  | nil => exact D_zero
  | cons d l ih =>
    have hp := h.pos (by simp)
    have h1 := h.1 d (by simp)
    rw [D_pos hp, nv_cons]
    have e1 : (d + 1048576 * nv l) % 1048576 = d := by omega
    have e2 : (d + 1048576 * nv l) / 1048576 = nv l := by omega
    rw [e1, e2, ih h.tail]
theorem Nrm_D (z : Int) : Nrm (D z) := by
  refine D_ind (P := fun z => Nrm (D z)) (fun z h => ?_) (fun z h ih => ?_) z
  · rw [D_np h]; exact Nrm.nil
  · refine ⟨Dig_D z, fun _ => ?_⟩
    rw [D_pos h]
    simp only [List.length_cons, Nat.add_sub_cancel]
    by_cases hz : z / 1048576 ≤ 0
    · rw [D_np hz]
      simp
      omega
    · rw [D_pos (by omega)] at ih ⊢
      have := ih.2 (by simp)
      simpa using this
theorem D_inj {a b : Int} (ha : 0 ≤ a) (hb : 0 ≤ b) (h : D a = D b) : a = b := by rw [← nv_D ha, ← nv_D hb, h]

theorem D_len_le {z : Int} (h : 0 ≤ z) {k : Nat} : (D z).length ≤ k ↔ z < pw k := by
  constructor
  · intro hk
    have h1 := (Dig_D z).nv_lt
    rw [nv_D h] at h1
    have := pw_le hk
    omega
  · revert k
    refine D_ind (P := fun z => ∀ {k : Nat}, z < pw k → (D z).length ≤ k) (fun z h k _ => ?_) (fun z h ih k hk => ?_) z
    · rw [D_np h]; simp
    · cases k with
      | zero => rw [pw_zero] at hk; omega
      | succ k =>
        rw [pw_succ] at hk
        rw [D_pos h, List.length_cons]
        have := @ih k (by omega)
        omega
theorem D_len_lt {z : Int} (h : 0 ≤ z) {k : Nat} : k < (D z).length ↔ pw k ≤ z := by
  have := @D_len_le z h k
  omega
theorem D_len_pos {z : Int} (h : 0 < z) : 0 < (D z).length := by rw [D_pos h]; simp

/-- Digits without the zeros at their end. -/
theorem D_take {l : List Int} (h : Dig l) {k : Nat} (hk : k ≤ l.length) (hv : nv (l.take k) = nv l) (hl : 0 < k → l.getD (k - 1) 0 ≠ 0) : l.take k = D (nv l) := by
  rw [← hv]
  refine (Nrm.eq_D ⟨h.take k, fun h0 => ?_⟩).symm
  rw [List.length_take, Nat.min_eq_left hk] at h0 ⊢
  have := hl h0
  rw [List.getD_eq_getElem?_getD] at this ⊢
  rwa [List.getElem?_take_of_lt (by omega)]

/-- Values behind and before a place. -/
theorem nv_split (l : List Int) (k : Nat) (hk : k ≤ l.length) : nv l = nv (l.take k) + pw k * nv (l.drop k) := by
  have := nv_append (l.take k) (l.drop k)
  rw [List.take_append_drop, List.length_take, Nat.min_eq_left hk] at this
  exact this
theorem nv_replicate (n : Nat) : nv (List.replicate n 0) = 0 := by
  induction n with
  | zero => rfl
  | succ n ih => rw [List.replicate_succ, nv_cons, ih]; rfl
/-- Comparing from the end. -/
theorem nv_lt_of {a b : List Int} (ha : Dig a) (hb : Dig b) (hl : a.length = b.length) {k : Nat} (hk : k < a.length) (he : a.drop (k + 1) = b.drop (k + 1)) (hd : a.getD k 0 < b.getD k 0) : nv a < nv b := by
  have h1 := nv_split a (k + 1) (by omega)
  have h2 := nv_split b (k + 1) (by omega)
  rw [nv_take_succ hk] at h1
  rw [nv_take_succ (by omega)] at h2
  have h3 := (ha.take k).nv_lt
  have h4 := (hb.take k).nv_nonneg
  rw [List.length_take, Nat.min_eq_left (by omega)] at h3
  have h5 : pw k * (a.getD k 0 + 1) ≤ pw k * b.getD k 0 := Int.mul_le_mul_of_nonneg_left (by omega) (by have := pw_pos k; omega)
  rw [Int.mul_add, Int.mul_one] at h5
  rw [he] at h1
  omega

end Go.Proofs.YtgpmmpajnfbecaaGreat

namespace Go.Proofs.YtgpmmpajnfbecaaGreat
open Go.RowKit

theorem Tryz.info3 : (Tryz.prog.info? 3).map (fun i => (i.zero, i.size, i.bytes)) = some (some (.int .i64 0), 1, 8) := by kernel_rfl

/-- The ints of a slice at address a, in blocks below B. -/
def IntsAt (B : Nat) (w : World) (a : Option Addr) (zs : List Int) : Prop :=
  ∀ k, k < zs.length → ∃ b off, a = some ⟨b, off, none⟩ ∧ b < B ∧ w.cell? ⟨b, off + k, none⟩ = some (.int .i64 (zs.getD k 0))

theorem IntsAt.nil (B : Nat) (w : World) (a : Option Addr) : IntsAt B w a [] := fun k hk => by cases hk
theorem IntsAt.below {B : Nat} {w w' : World} {a : Option Addr} {zs : List Int} (h : IntsAt B w a zs) (hb : Below B w w') : IntsAt B w' a zs := fun k hk => by
  obtain ⟨b, off, e, hB, hc⟩ := h k hk
  exact ⟨b, off, e, hB, (hb.cell (p := ⟨b, off + k, none⟩) hB).trans hc⟩
theorem IntsAt.more {B B' : Nat} {w : World} {a : Option Addr} {zs : List Int} (h : IntsAt B w a zs) (hb : B ≤ B') : IntsAt B' w a zs := fun k hk => by
  obtain ⟨b, off, e, hB, hc⟩ := h k hk
  exact ⟨b, off, e, by omega, hc⟩

/-- A slice value v with the ints l, owned from block B on. -/
def OwnI (w : World) (B : Nat) (v : Value) (l : List Int) : Prop := w.ownsRow B 3 1 v l.length (l.map (Value.int .i64))

section
variable {w w' : World} {B B' : Nat} {v : Value} {l : List Int}
theorem OwnI.nil (w : World) (B : Nat) : OwnI w B (.slice none 0 0) [] := World.ownsRow_nil w B 3 1
theorem OwnI.below (h : OwnI w B v l) (hb : Below w.heap.size w w') : OwnI w' B v l :=
  World.ownsRow.kept (row := none) h ⟨hb.os, hb.tape, hb.output, hb.size, fun k hk _ => hb.block k hk⟩ (by cases v.ownBlock <;> simp)
theorem OwnI.mono (h : OwnI w B v l) (hb : B' ≤ B) : OwnI w B' v l := World.ownsRow.mono h hb
theorem OwnI.form (h : OwnI w B v l) : ∃ A c, v = .slice A l.length c := by
  rcases h.2 with ⟨rfl, hn⟩ | ⟨g, cap, cur, rfl, hb, hg, hnc, hcm, hcs, htake⟩
  · exact ⟨none, 0, by rw [hn]⟩
  · exact ⟨_, cap, rfl⟩
theorem OwnI.ints (h : OwnI w B v l) : ∃ a cap, v = .slice a l.length cap ∧ IntsAt w.heap.size w a l := by
  rcases h.2 with ⟨rfl, hn⟩ | ⟨g, cap, cur, rfl, hb, hg, hnc, hcm, hcs, htake⟩
  · have : l = [] := List.eq_nil_of_length_eq_zero hn
    subst this
    exact ⟨none, 0, rfl, fun k hk => by cases hk⟩
  · refine ⟨_, cap, rfl, fun k hk => ⟨g, 0, rfl, (Array.getElem?_eq_some_iff.1 hg).1, ?_⟩⟩
    rw [Nat.zero_add, World.ownsRow.cellAt h k (by omega), List.getElem?_map, List.getElem?_eq_getElem hk, List.getD_eq_getElem?_getD, List.getElem?_eq_getElem hk]
    rfl
theorem OwnI.at_ (h : OwnI w B v l) : ∃ A c, v = .slice A l.length c ∧ l.length ≤ c ∧ c ≤ 9223372036854775807 ∧ IntsAt w.heap.size w A l := by
  obtain ⟨a, cap, e, hI⟩ := h.ints
  refine ⟨a, cap, e, ?_, ?_, hI⟩
  all_goals
    rcases h.2 with ⟨hv, hn⟩ | ⟨g, cap', cur, hv, hb, hg, hnc, hcm, hcs, htake⟩
    all_goals
      rw [e] at hv
      injection hv with e1 e2 e3
      try unfold maxLen at hcm
      omega
theorem OwnI.cell {g n cap k : Nat} (h : OwnI w B (.slice (some ⟨g, 0, none⟩) n cap) l) (hn : l.length = n) (hk : k < n) : w.cell? ⟨g, k, none⟩ = some (.int .i64 (l.getD k 0)) := by
  subst hn
  rw [World.ownsRow.cellAt h k (by omega), List.getElem?_map, List.getElem?_eq_getElem hk, List.getD_eq_getElem?_getD, List.getElem?_eq_getElem hk]
  rfl
theorem OwnI.frozen {g n cap k : Nat} (h : OwnI w B (.slice (some ⟨g, 0, none⟩) n cap) l) (hn : l.length = n) : w.frozen? ⟨g, k, none⟩ = false := by
  subst hn
  exact World.ownsRow.frozenAt h k
theorem OwnI.store {g n cap : Nat} (h : OwnI w B (.slice (some ⟨g, 0, none⟩) n cap) l) (hn : l.length = n) (k : Nat) (z : Int) : OwnI (w.setCell ⟨g, k, none⟩ (.int .i64 z)) B (.slice (some ⟨g, 0, none⟩) n cap) (l.set k z) := by
  subst hn
  have := (World.ownsRow.stored h k (.int .i64 z)).1
  unfold OwnI
  rw [List.length_set, List.map_set]
  exact this
theorem OwnI.lt {g n cap : Nat} (h : OwnI w B (.slice (some ⟨g, 0, none⟩) n cap) l) : B ≤ g ∧ g < w.heap.size := World.ownsRow.lt h g rfl
/-- The first of its ints alone. -/
theorem OwnI.cut {A : Option Addr} {n cap k : Nat} (h : OwnI w B (.slice A n cap) l) (hn : l.length = n) (hk : k ≤ n) : OwnI w B (.slice A k cap) (l.take k) := by
  subst hn
  have hl : (l.take k).length = k := by rw [List.length_take]; omega
  unfold OwnI
  rw [hl]
  refine ⟨by simp; omega, ?_⟩
  rcases h.2 with ⟨hv, hn⟩ | ⟨g, cap', cur, hv, hb, hg, hnc, hcm, hcs, htake⟩
  · injection hv with e1 e2 e3
    subst e1; subst e3
    exact .inl ⟨by rw [show k = 0 by omega], by omega⟩
  · injection hv with e1 e2 e3
    subst e1; subst e3
    refine .inr ⟨g, cap, cur, rfl, hb, hg, by omega, hcm, hcs, ?_⟩
    have h3 : (cur.toList.take (l.length * 1)).take (k * 1) = (l.map (Value.int .i64)).take (k * 1) := by rw [htake]
    rw [List.take_take, Nat.min_eq_left (by omega)] at h3
    rw [h3, Nat.mul_one, List.map_take]
end

theorem appI {w : World} {ops : Array Oper} {rest : List Oper} {o : Oper} {a : Act} {Q : Exit → Act → World → Prop} (hgd : o.guard = none) (s x : Operand)
    (ho : o.op = .call { callee := .builtin .append, args := #[s, x], argTypes := #[37, 37] })
    (B : Nat) (v : Value) (l : List Int) (c : Int) (hs : a.eval s = v) (hown : OwnI w B v l)
    (hx : a.eval x = .slice (some ⟨w.heap.size, 0, none⟩) 1 1) (hb : l.length ≤ 10000000) (hbase : B ≤ w.heap.size)
    (h : ∀ v' w', OwnI w' B v' (l ++ [c]) → Below B w w' → wpList Tryz.prog ops Q rest (a.put o.dst v') w') : wpList Tryz.prog ops Q (o :: rest) a (w.alloc (.cells #[.int .i64 c] 3)) := by
  obtain ⟨i0, hi, hz0, hz1, hz2⟩ := info_parts Tryz.info3
  refine wpList_append_own _ hgd s x 37 ho B 3 i0 (.int .i64 0) 1 8 Tryz.underlying37 hi hz0 hz1 hz2 rfl (by decide) _ _ _ hs (World.ownsRow.alloc hown _) ⟨w.heap.size, 0, none⟩ 1 1 [.int .i64 c] hx rfl ?_ ?_ ?_ ?_ ?_ ?_
  · intro j u hj; match j, hj with | 0, hj => simp at hj; subst hj; simp [Addr.add]
  · intro u hu; simp at hu; subst hu; rfl
  · unfold maxLen; omega
  · omega
  · simp; omega
  · intro v' w1 hown' hgrow _
    refine h v' w1 ?_ ?_
    · unfold OwnI
      rw [List.length_append, List.map_append]
      exact hown'
    · exact ((Below.refl B w).alloc hbase _).grown hgrow (by simp; omega) (fun k hk => (World.ownsRow.lt hown k hk).1)

/-- make([]int, n, c). -/
theorem makeI {w : World} {ops : Array Oper} {rest : List Oper} {o : Oper} {a : Act} {Q : Exit → Act → World → Prop} (hgd : o.guard = none) (l c : Operand)
    (ho : o.op = Op.makeSlice 37 l c) (B n m : Nat) (L C : Int) (hl : a.eval l = .int .i64 L) (hc : a.eval c = .int .i64 C) (hL : L = n) (hC : C = m) (hnm : n ≤ m) (hm : m ≤ 10000000) (hbase : B ≤ w.heap.size)
    (h : ∀ w', OwnI w' B (.slice (some ⟨w.heap.size, 0, none⟩) n m) (List.replicate n 0) → Below B w w' → w'.heap.size = w.heap.size + 1 → wpList Tryz.prog ops Q rest (a.put o.dst (.slice (some ⟨w.heap.size, 0, none⟩) n m)) w') : wpList Tryz.prog ops Q (o :: rest) a w := by
  obtain ⟨i0, hi, hz0, hz1, hz2⟩ := info_parts Tryz.info3
  subst hL; subst hC
  have hr := run_make (P := Tryz.prog) w 37 3 i0 (.int .i64 0) Tryz.underlying37 hi hz0 .i64 .i64 (n : Int) (m : Int) (by omega) (by omega) (by rw [hz2]; omega) (by omega)
  simp only [Int.toNat_natCast] at hr
  refine wpList_plain hgd fun K hK' => ?_
  unfold Oper.wp
  simp [execOp, ho, hl, hc, hr, Result.andThen]
  refine hK' _ _ (h _ ?_ ((Below.refl B w).alloc hbase _) (by simp))
  have hcut := OwnI.cut (w := w.alloc (.cells (madeCells (Value.int .i64 0).cells (m * i0.size)) 3)) (B := B) (A := some ⟨w.heap.size, 0, none⟩) (n := m) (cap := m) (k := n) (l := List.replicate m 0) ?_ (by simp) hnm
  · rw [List.take_replicate, Nat.min_eq_left hnm] at hcut
    exact hcut
  · unfold OwnI
    rw [hz1, Nat.mul_one, List.length_replicate]
    have := World.ownsRow_lit (e := 3) (size := 1) (base := B) w (madeCells (Value.int .i64 0).cells m) m hbase (by unfold maxLen; omega) (by rw [size_madeCells]; omega)
    have e : (madeCells (Value.int .i64 0).cells m).toList = (List.replicate m (0 : Int)).map (Value.int .i64) := by
      unfold madeCells
      simp only [Value.cells, List.map_replicate]
      apply List.ext_getElem
      · simp
      · intro i h1 h2
        simp [Nat.mod_one]
    rw [e] at this
    exact this

theorem and_low (x : Int) : bits BinOp.and IntKind.i64 x 1048575 = x % 1048576 := by
  obtain ⟨a, ha⟩ : ∃ a : Nat, x % 18446744073709551616 = a := ⟨(x % 18446744073709551616).toNat, by omega⟩
  have h2 : (BitVec.ofInt 64 x).toNat = a := by rw [BitVec.toNat_ofInt]; show (x % 18446744073709551616).toNat = a; omega
  have h3 : (BitVec.ofInt 64 1048575).toNat = 1048575 := by decide
  have h4 : a &&& 1048575 = a % 1048576 := Nat.and_two_pow_sub_one_eq_mod a 20
  have h5 : (BitVec.ofInt 64 x &&& BitVec.ofInt 64 1048575).toNat = a % 1048576 := by rw [BitVec.toNat_and, h2, h3, h4]
  have h6 : bits BinOp.and IntKind.i64 x 1048575 = IntKind.i64.wrap ((BitVec.ofInt 64 x &&& BitVec.ofInt 64 1048575).toNat : Int) := rfl
  rw [h6, h5, IntKind.wrap_i64]
  omega

end Go.Proofs.YtgpmmpajnfbecaaGreat

namespace Go.Proofs.YtgpmmpajnfbecaaGreat
open Go.RowKit

theorem trim_any (l : List Int) (v : Value) (w : World) (B : Nat) (h : OwnI w B v l) (hd : Dig l) (hl : l.length ≤ 1000000) :
    Calls Tryz.prog 103 #[v] w fun e w' => ∃ v', e = .returned v' ∧ OwnI w' B v' (D (nv l)) ∧ w = w' := by
  obtain ⟨A, c, rfl, hnc, _, hI⟩ := h.at_
  obtain ⟨n, hn⟩ : ∃ n, l.length = n := ⟨_, rfl⟩
  have hnn : l.length ≤ n ∧ n ≤ l.length := by omega
  rw [hn] at h hl hnc ⊢
  have HN := Lib.hid hn; clear hn
  go_enter Tryz.func103, Tryz.ntmps103
  go_wp2_with fail
  go_loop [3] (fun k => ∃ m : Nat, m ≤ n ∧ k = .int .i64 m ∧ Hid (nv (l.take m) = nv l)) (fun k => (intOf k).toNat)
  case atStart => exact ⟨n, Nat.le_refl _, rfl, Lib.hid (nv_take_all l (by omega))⟩
  case round =>
    obtain ⟨m, hm, rfl, hv⟩ := hrel
    by_cases h0 : 0 < m
    · obtain ⟨b, off, hA, _, hc⟩ := hI (m - 1) (by omega)
      subst hA
      obtain ⟨d, hd⟩ : ∃ d, l.getD (m - 1) 0 = d := ⟨_, rfl⟩
      rw [hd] at hc
      have HD := Lib.hid hd; clear hd
      by_cases hz : d = 0
      · subst hz
        go_wp2_with fail
        go_round
        case rel => exact ⟨m - 1, by omega, by congr 1; omega, Lib.hid (by
          have h1 := hv.out
          obtain ⟨j, rfl⟩ : ∃ j, m = j + 1 := ⟨m - 1, by omega⟩
          rw [nv_take_succ (by omega)] at h1
          have h2 := HD.out
          rw [Nat.add_sub_cancel] at h2 ⊢
          rw [h2, Int.mul_zero, Int.add_zero] at h1
          exact h1)⟩
        case measure => simp [intOf]; omega
      · have hz' : (d == 0) = false := by simpa using hz
        go_wp2_with fail
        go_ret
        refine ⟨_, rfl, ?_, rfl⟩
        rw [← D_take hd (k := m) (by omega) hv.out (fun _ => by rw [HD.out]; exact hz)]
        exact h.cut HN.out hm
    · have : m = 0 := by omega
      subst this
      go_wp2_with fail
      go_ret
      refine ⟨_, rfl, ?_, rfl⟩
      rw [← D_take hd (k := 0) (by omega) hv.out (fun h => by cases h)]
      exact h.cut HN.out hm

theorem carried_any (l : List Int) (c : Int) (v : Value) (w : World) (B : Nat) (h : OwnI w B v l) (hd : Dig l) (hB : B ≤ w.heap.size) (h0 : 0 ≤ c) (h1 : c < 9223372036854775807) (hZ : nv l + pw l.length * c < pw 1000) (hl : l.length ≤ 1000) :
    Calls Tryz.prog 106 #[v, .int .i64 c] w fun e w' => ∃ v', e = .returned v' ∧ OwnI w' B v' (D (nv l + pw l.length * c)) ∧ Below B w w' := by
  have HZ := Lib.hid hZ; clear hZ
  go_enter Tryz.func106, Tryz.ntmps106
  go_wp2_with fail
  go_loopw [0, 1] (fun d k wr => ∃ (l' : List Int) (c' : Int), k = .int .i64 c' ∧ 0 ≤ c' ∧ c' < 9223372036854775807 ∧ OwnI wr B d l' ∧ Dig l' ∧ Below B w wr ∧ l'.length ≤ 1000 ∧ Hid (nv l' + pw l'.length * c' = nv l + pw l.length * c)) (fun _ k _ => (intOf k).toNat)
  case atStart => exact ⟨l, c, rfl, h0, h1, h, hd, Below.refl _ _, hl, Lib.hid rfl⟩
  case round =>
    obtain ⟨l', c', rfl, hc0, hc1, hown, hdig, hb, hl', hv⟩ := hrel
    have hs := hb.size
    by_cases hp : 0 < c'
    · have hl2 : l'.length < 1000 := by
        have e1 := hv.out
        have e2 := HZ.out
        rw [← e1] at e2
        have e3 := hdig.nv_nonneg
        have e4 : pw l'.length * 1 ≤ pw l'.length * c' := Int.mul_le_mul_of_nonneg_left (by omega) (by have := pw_pos l'.length; omega)
        rcases Nat.lt_or_ge l'.length 1000 with h | h
        · exact h
        · have := pw_le h
          omega
      go_wp2_with (first
        | (at_builtin; refine appI rfl (.tmp 9) (.tmp 12) rfl B _ l' (bits BinOp.and IntKind.i64 c' 1048575) rfl hown rfl (by omega) (by omega) ?_; intro v1 w1 hown1 hb1))
      rw [and_low] at hown1
      go_roundw
      case rel => exact ⟨_, _, rfl, by omega, by omega, hown1, hdig.snoc (by omega) (by omega), hb.trans hb1, by simp; omega, Lib.hid (by
        rw [← hv.out, nv_snoc, List.length_append, List.length_singleton, pw_succ, Int.mul_comm 1048576, Int.mul_assoc, Int.add_assoc, ← Int.mul_add]
        congr 2; omega)⟩
      case measure => simp [intOf]; omega
    · have : c' = 0 := by omega
      subst this
      go_wp2_with fail
      refine (trim_any l' _ _ B hown hdig (by omega)).mono ?_
      rintro e w1 ⟨v1, rfl, hown1, rfl⟩
      go_wp2_with fail
      go_ret
      exact ⟨_, rfl, by rw [← hv.out, Int.mul_zero, Int.add_zero]; exact hown1, hb⟩

end Go.Proofs.YtgpmmpajnfbecaaGreat
