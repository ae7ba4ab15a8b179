/- How the program's disk lies in memory; what a call may turn. -/
import Derived.Test.YtgocnjiabfmdpaaRows
import Derived.Test.YtgocnjiabfmdpaaDMa
import Derived.Test.YtgocnjiabfmdpaaDPb
import Derived.WalkKit
import Derived.WalkSpells
import Derived.WalkLawsBesides
import Derived.Lib.Hide
import Derived.Maps.AppendAt
import Derived.Laws.CopyOwn
import Derived.Laws.OwnMore
import Derived.Deep.AppendLies
namespace Go.Proofs.Ytgocnjiabfmdpaa
set_option maxRecDepth 8000
open Go.RowKit

inductive Role
  | disk | files | list | keep | iter
  | file (i : Int) | sect (i : Int) | now (i : Int) | dur (i : Int)

/-- Whose block is it, and which of its parts: a ghost. -/
abbrev Lab := Nat → Option (Nat × Role)

def Fresh (L : Lab) (w : World) : Prop := ∀ b, w.heap.size ≤ b → L b = none

def setL (L : Lab) (g : Nat) (t : Nat × Role) : Lab := fun b => if b = g then some t else L b

/-- From w to w' nothing has turned but blocks whose labels are in M, and what is new. -/
structure Fr (M : Nat × Role → Prop) (L : Lab) (w : World) (L' : Lab) (w' : World) : Prop where
  os : w'.os = w.os
  tape : w'.tape = w.tape
  output : w'.output = w.output
  size : w.heap.size ≤ w'.heap.size
  lab : ∀ b, b < w.heap.size → L' b = L b
  fresh : Fresh L' w'
  block : ∀ b, b < w.heap.size → (∀ t, L b = some t → ¬ M t) → w'.heap[b]? = w.heap[b]?

section
variable {M M' : Nat × Role → Prop} {L L1 L2 : Lab} {w w1 w2 : World}

theorem Fr.refl (h : Fresh L w) : Fr M L w L w := ⟨rfl, rfl, rfl, Nat.le_refl _, fun _ _ => rfl, h, fun _ _ _ => rfl⟩

theorem Fr.trans (h : Fr M L w L1 w1) (k : Fr M L1 w1 L2 w2) : Fr M L w L2 w2 :=
  ⟨k.os.trans h.os, k.tape.trans h.tape, k.output.trans h.output, Nat.le_trans h.size k.size,
   fun b hb => (k.lab b (Nat.lt_of_lt_of_le hb h.size)).trans (h.lab b hb), k.fresh,
   fun b hb hm => (k.block b (Nat.lt_of_lt_of_le hb h.size) (fun t ht => hm t (by rw [← h.lab b hb]; exact ht))).trans (h.block b hb hm)⟩

theorem Fr.mono (h : Fr M L w L1 w1) (hm : ∀ t, M t → M' t) : Fr M' L w L1 w1 :=
  ⟨h.os, h.tape, h.output, h.size, h.lab, h.fresh, fun b hb hn => h.block b hb (fun t ht hmt => hn t ht (hm t hmt))⟩

theorem Fr.grown (hL : Fresh L w) {row : Option Nat} (hg : w.grownBy w1 row) (hr : ∀ g, row = some g → g < w.heap.size → ∃ t, L g = some t ∧ M t) : Fr M L w L w1 :=
  ⟨hg.os, hg.tape, hg.output, hg.size, fun _ _ => rfl, fun b hb => hL b (Nat.le_trans hg.size hb), fun b hb hn => hg.block b hb (fun e => by
    obtain ⟨t, ht, hm⟩ := hr b e.symm hb
    exact hn t ht hm)⟩

theorem Fr.below (hL : Fresh L w) (hb : Below w.heap.size w w1) : Fr M L w L w1 :=
  ⟨hb.os, hb.tape, hb.output, hb.size, fun _ _ => rfl, fun b h => hL b (Nat.le_trans hb.size h), fun b h _ => hb.block b h⟩

/-- A block that is new since w gets a label. -/
theorem Fr.label (h : Fr M L w L1 w1) {g : Nat} (h0 : w.heap.size ≤ g) (h1 : g < w1.heap.size) (t : Nat × Role) : Fr M L w (setL L1 g t) w1 :=
  ⟨h.os, h.tape, h.output, h.size, fun b hb => by unfold setL; rw [if_neg (by omega)]; exact h.lab b hb, fun b hb => by unfold setL; rw [if_neg (by omega)]; exact h.fresh b hb, h.block⟩

theorem setL_same (L : Lab) (g : Nat) (t : Nat × Role) : setL L g t g = some t := by simp [setL]
theorem setL_ne (L : Lab) {g b : Nat} (t : Nat × Role) (h : b ≠ g) : setL L g t b = L b := by simp [setL, h]

theorem Fr.alloc (h : Fr M L w L1 w1) (o : Obj) : Fr M L w L1 (w1.alloc o) :=
  ⟨h.os, h.tape, h.output, Nat.le_trans h.size (by simp), h.lab, fun b hb => h.fresh b (by simp at hb; omega), fun b hb hn => (Below.heap_alloc _ _ _ (Nat.lt_of_lt_of_le hb h.size)).trans (h.block b hb hn)⟩

theorem Fr.drew (h : Fr M L w L1 w1) : Fr M L w L1 w1.drew := ⟨h.os, h.tape, h.output, h.size, h.lab, h.fresh, h.block⟩

theorem Fr.setCell (h : Fr M L w L1 w1) {p : Addr} (hp : w.heap.size ≤ p.block ∨ ∃ t, L1 p.block = some t ∧ M t) (u : Value) : Fr M L w L1 (w1.setCell p u) := by
  refine ⟨h.os, h.tape, h.output, by simpa [World.setCell] using h.size, h.lab, fun b hb => h.fresh b (by simpa [World.setCell] using hb), fun b hb hn => ?_⟩
  refine (Below.heap_setCell _ _ _ _ (fun e => ?_)).trans (h.block b hb hn)
  rcases hp with hp | ⟨t, ht, hm⟩
  · omega
  · rw [← e, h.lab b hb] at ht
    exact hn t ht hm

theorem Fr.lt_of_lab (hL : Fresh L w) {b : Nat} {t : Nat × Role} (h : L b = some t) : b < w.heap.size := by
  rcases Nat.lt_or_ge b w.heap.size with hlt | hge
  · exact hlt
  · rw [hL b hge] at h; cases h

theorem Fr.lab_of (h : Fr M L w L1 w1) (hL : Fresh L w) {b : Nat} {t : Nat × Role} (hb : L b = some t) : L1 b = some t := (h.lab b (Fr.lt_of_lab hL hb)).trans hb

theorem Fr.keeps (h : Fr M L w L1 w1) (hL : Fresh L w) {b : Nat} {t : Nat × Role} (hb : L b = some t) (hm : ¬ M t) : w1.heap[b]? = w.heap[b]? :=
  h.block b (Fr.lt_of_lab hL hb) (fun t' ht' => by rw [hb] at ht'; cases ht'; exact hm)
end

def bc (l : List UInt8) : List Value := l.map fun c => Value.int .u8 (c.toNat : Int)
def ic (l : List Int) : List Value := l.map fun x => Value.int .i64 x
def pc (l : List (Int × Int)) : List Value := l.flatMap fun p => [Value.int .i64 p.1, Value.int .i64 p.2]

theorem bc_length (l : List UInt8) : (bc l).length = l.length := by simp [bc]
theorem ic_length (l : List Int) : (ic l).length = l.length := by simp [ic]
theorem pc_length (l : List (Int × Int)) : (pc l).length = l.length * 2 := by
  induction l with
  | nil => rfl
  | cons p l ih => simp only [pc, List.flatMap_cons, List.length_append, List.length_cons, List.length_nil] at ih ⊢; omega
theorem bc_append (a b : List UInt8) : bc (a ++ b) = bc a ++ bc b := by simp [bc]
theorem pc_append (a b : List (Int × Int)) : pc (a ++ b) = pc a ++ pc b := by simp [pc]
theorem pc_get (l : List (Int × Int)) (j : Nat) (h : j < l.length) : (pc l)[2 * j]? = some (.int .i64 l[j].1) ∧ (pc l)[2 * j + 1]? = some (.int .i64 l[j].2) := by
  induction l generalizing j with
  | nil => simp at h
  | cons p l ih =>
    cases j with
    | zero => simp [pc]
    | succ j =>
      have h1 := ih j (by simpa using h)
      have e1 : 2 * (j + 1) = 2 * j + 1 + 1 := by omega
      have e2 : 2 * (j + 1) + 1 = 2 * j + 1 + 1 + 1 := by omega
      simp only [pc, List.flatMap_cons] at h1 ⊢
      rw [e1]
      simpa using h1

/-- A slice of elements of type e that owns its array, which bears the label t. -/
def Sl (L : Lab) (w : World) (e : TypeId) (size : Nat) (v : Value) (n : Nat) (xs : List Value) (t : Nat × Role) : Prop :=
  w.ownsRow 0 e size v n xs ∧ ∀ g, v.ownBlock = some g → L g = some t

section
variable {M : Nat × Role → Prop} {L L1 : Lab} {w w1 : World} {e : TypeId} {size : Nat} {v : Value} {n : Nat} {xs : List Value} {t : Nat × Role}

theorem Sl.nil (L : Lab) (w : World) (e : TypeId) (size : Nat) (t : Nat × Role) : Sl L w e size (.slice none 0 0) 0 [] t := ⟨World.ownsRow_nil w 0 e size, fun g hg => by simp [Value.ownBlock] at hg⟩

theorem ownsRow_of_blocks (h : w.ownsRow 0 e size v n xs) (hk : ∀ g, v.ownBlock = some g → w1.heap[g]? = w.heap[g]?) : w1.ownsRow 0 e size v n xs := by
  refine ⟨h.1, ?_⟩
  rcases h.2 with hn | ⟨g, cap, cur, rfl, hb, hgg, rest⟩
  · exact .inl hn
  · exact .inr ⟨g, cap, cur, rfl, hb, (hk g rfl).trans hgg, rest⟩

theorem Sl.keep (h : Sl L w e size v n xs t) (hL : Fresh L w) (hf : Fr M L w L1 w1) (ht : ¬ M t) : Sl L1 w1 e size v n xs t :=
  ⟨ownsRow_of_blocks h.1 (fun g hg => hf.keeps hL (h.2 g hg) ht), fun g hg => hf.lab_of hL (h.2 g hg)⟩
end

def secF (g : Int → Bool) : Int → Option Value := fun n => if g n = true then some (.bool true) else none
def filesF (fb : Int → Nat) : Int → Option Value := fun i => if isFile i = true then some (.pointer (some ⟨fb i, 0, none⟩)) else none

/-- A file of the program's: its struct lies in block b. -/
def FAt (L : Lab) (w : World) (k : Nat) (i : Int) (b : Nat) (now dur : List UInt8) (sec : Int → Bool) : Prop :=
  ∃ nv dv sb, L b = some (k, .file i) ∧ w.heap[b]? = some (.cells #[nv, dv, .map (some sb)] 82 (0, 0)) ∧ L sb = some (k, .sect i) ∧ IMap w sb (secF sec) ∧
    Sl L w 5 1 nv now.length (bc now) (k, .now i) ∧ Sl L w 5 1 dv dur.length (bc dur) (k, .dur i)

def DBody (L : Lab) (w : World) (k mb : Nat) (pv kv : Value) (fb : Int → Nat) (s : St) : Prop :=
  L mb = some (k, .files) ∧ IMap w mb (filesF fb) ∧ Sl L w 95 2 pv s.pend.length (pc s.pend) (k, .list) ∧ Sl L w 3 1 kv s.keep.length (ic s.keep) (k, .keep) ∧
  ∀ i, isFile i = true → FAt L w k i (fb i) (s.now i) (s.dur i) (s.sec i)

def dcells (mb : Nat) (pv kv : Value) (s : St) : Array Value := #[.map (some mb), pv, .bool s.down, .int .i64 s.lost, .int .i64 s.armed, kv]

/-- The program's disk, number k, at block d. -/
def DAt (L : Lab) (w : World) (k d : Nat) (s : St) : Prop :=
  ∃ mb pv kv fb, L d = some (k, .disk) ∧ w.heap[d]? = some (.cells (dcells mb pv kv s) 78 (0, 0)) ∧ DBody L w k mb pv kv fb s

section
variable {M : Nat × Role → Prop} {L L1 : Lab} {w w1 : World} {k d mb : Nat} {pv kv : Value} {fb : Int → Nat} {s : St}

theorem IMap.keep {b : Nat} {f : Int → Option Value} {t : Nat × Role} (h : IMap w b f) (hl : L b = some t) (hL : Fresh L w) (hf : Fr M L w L1 w1) (ht : ¬ M t) : IMap w1 b f := h.same (hf.keeps hL hl ht)

theorem FAt.keep {i : Int} {b : Nat} {now dur : List UInt8} {sec : Int → Bool} (h : FAt L w k i b now dur sec) (hL : Fresh L w) (hf : Fr M L w L1 w1) (h1 : ¬ M (k, .file i)) (h2 : ¬ M (k, .sect i)) (h3 : ¬ M (k, .now i)) (h4 : ¬ M (k, .dur i)) :
    FAt L1 w1 k i b now dur sec := by
  obtain ⟨nv, dv, sb, a1, a2, a3, a4, a5, a6⟩ := h
  exact ⟨nv, dv, sb, hf.lab_of hL a1, (hf.keeps hL a1 h1).trans a2, hf.lab_of hL a3, a4.keep a3 hL hf h2, a5.keep hL hf h3, a6.keep hL hf h4⟩

theorem DBody.keep (h : DBody L w k mb pv kv fb s) (hL : Fresh L w) (hf : Fr M L w L1 w1) (hm : ∀ r, r ≠ Role.disk → r ≠ Role.iter → ¬ M (k, r)) : DBody L1 w1 k mb pv kv fb s := by
  obtain ⟨a1, a2, a3, a4, a5⟩ := h
  exact ⟨hf.lab_of hL a1, a2.keep a1 hL hf (hm _ (by simp) (by simp)), a3.keep hL hf (hm _ (by simp) (by simp)), a4.keep hL hf (hm _ (by simp) (by simp)), fun i hi => (a5 i hi).keep hL hf (hm _ (by simp) (by simp)) (hm _ (by simp) (by simp)) (hm _ (by simp) (by simp)) (hm _ (by simp) (by simp))⟩

theorem DAt.keep (h : DAt L w k d s) (hL : Fresh L w) (hf : Fr M L w L1 w1) (hm : ∀ r, ¬ M (k, r)) : DAt L1 w1 k d s := by
  obtain ⟨mb, pv, kv, fb, a1, a2, a3⟩ := h
  exact ⟨mb, pv, kv, fb, hf.lab_of hL a1, (hf.keeps hL a1 (hm _)).trans a2, a3.keep hL hf (fun r _ _ => hm r)⟩

theorem DAt.lt (h : DAt L w k d s) : d < w.heap.size := by
  obtain ⟨mb, pv, kv, fb, a1, a2, a3⟩ := h
  exact (Array.getElem?_eq_some_iff.1 a2).1
end

/-- A block that is known whole. -/
theorem blk_cell {w : World} {g : Nat} {t : TypeId} {cs : Array Value} (h : w.heap[g]? = some (.cells cs t (0, 0))) (i : Nat) : w.cell? ⟨g, i, none⟩ = cs[i]? := cell_of_row w g i cs t (0, 0) h
theorem blk_free {w : World} {g : Nat} {t : TypeId} {cs : Array Value} (h : w.heap[g]? = some (.cells cs t (0, 0))) (i : Nat) : w.frozen? ⟨g, i, none⟩ = false := by simp [World.frozen?, h]
theorem blk_lt {w : World} {g : Nat} {o : Obj} (h : w.heap[g]? = some o) : g < w.heap.size := (Array.getElem?_eq_some_iff.1 h).1
theorem blk_set {w : World} {g : Nat} {t : TypeId} {cs : Array Value} (h : w.heap[g]? = some (.cells cs t (0, 0))) (i : Nat) (u : Value) : (w.setCell ⟨g, i, none⟩ u).heap[g]? = some (.cells (cs.setIfInBounds i u) t (0, 0)) := by
  simp [World.setCell, Array.getElem?_modify, h]
theorem blk_far {w : World} {g : Nat} {o : Obj} (h : w.heap[g]? = some o) {p : Addr} (hp : g ≠ p.block) (u : Value) : (w.setCell p u).heap[g]? = some o := (Below.heap_setCell w p u g hp).trans h
theorem blk_alloc {w : World} {g : Nat} {o : Obj} (h : w.heap[g]? = some o) (o' : Obj) : (w.alloc o').heap[g]? = some o := (Below.heap_alloc w o' g (blk_lt h)).trans h

end Go.Proofs.Ytgocnjiabfmdpaa
