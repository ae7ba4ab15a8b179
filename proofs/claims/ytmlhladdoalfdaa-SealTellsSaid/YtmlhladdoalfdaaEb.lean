/- Memory: entries; slices of entries; plain facts of lists of entries. -/
import Derived.Test.YtmlhladdoalfdaaEa
import Derived.Laws.Rows
import Derived.Laws.OwnMore
import Derived.Deep.Onto
namespace Go.Proofs.Ytmlhladdoalfdaa
open Go.RowKit

def Blk (w : World) (g : Nat) (t : TypeId) (cs : Array Value) : Prop := w.heap[g]? = some (.cells cs t (0, 0))
section
variable {w w' : World} {g : Nat} {t : TypeId} {cs : Array Value}
theorem Blk.lt (h : Blk w g t cs) : g < w.heap.size := by
  rcases Nat.lt_or_ge g w.heap.size with hlt | hge
  · exact hlt
  · unfold Blk at h; rw [Array.getElem?_eq_none hge] at h; cases h
theorem Blk.cell (h : Blk w g t cs) (i : Nat) : w.cell? ⟨g, i, none⟩ = cs[i]? := cell_of_row w g i cs t (0, 0) h
theorem Blk.frozen (h : Blk w g t cs) (i : Nat) : w.frozen? ⟨g, i, none⟩ = false := by
  unfold Blk at h
  simp [World.frozen?, h]
theorem Blk.new (w : World) (t : TypeId) (cs : Array Value) : Blk (w.alloc (.cells cs t)) w.heap.size t cs := heap_alloc_new w _
theorem Blk.drewN (h : Blk w g t cs) (n : Nat) : Blk (w.drewN n) g t cs := h
theorem Blk.alloc (h : Blk w g t cs) (o : Obj) : Blk (w.alloc o) g t cs := (Below.heap_alloc w o g h.lt).trans h
theorem Blk.set_ (h : Blk w g t cs) (i : Nat) (u : Value) : Blk (w.setCell ⟨g, i, none⟩ u) g t (cs.setIfInBounds i u) := by
  unfold Blk at h ⊢
  simp [World.setCell, Array.getElem?_modify, h]
theorem Blk.far (h : Blk w g t cs) {p : Addr} (hp : g ≠ p.block) (u : Value) : Blk (w.setCell p u) g t cs := (Below.heap_setCell w p u g hp).trans h
theorem Blk.below {B : Nat} (h : Blk w g t cs) (hb : Below B w w') (hg : g < B) : Blk w' g t cs := (hb.block g hg).trans h
end

def pc (l : List (En)) : List Value := l.flatMap fun p => [Value.int .i64 p.1, Value.string p.2]
theorem pc_length (l : List (En)) : (pc l).length = l.length * 2 := by
  induction l with
  | nil => rfl
  | cons p l ih => simp only [pc, List.flatMap_cons, List.length_append, List.length_cons, List.length_nil] at ih ⊢; omega
theorem pc_append (a b : List (En)) : pc (a ++ b) = pc a ++ pc b := by simp [pc]
def e0 : En := (0, ⟨#[]⟩)
theorem pc_get (l : List (En)) (j : Nat) (h : j < l.length) : (pc l)[2 * j]? = some (.int .i64 l[j].1) ∧ (pc l)[2 * j + 1]? = some (.string l[j].2) := by
  induction l generalizing j with
  | nil => simp at h
  | cons p l ih =>
    cases j with
    | zero => simp [pc]
    | succ j =>
      have h1 := ih j (by simpa using h)
      have e1 : 2 * (j + 1) = 2 * j + 1 + 1 := by omega
      have e2 : 2 * (j + 1) + 1 = 2 * j + 1 + 1 + 1 := by omega
      simp only [pc, List.flatMap_cons] at h1 ⊢
      rw [e1]
      simpa using h1
theorem pc_set (m : List (En)) (i : Nat) (p : En) : ((pc m).set (i * 2) (.int .i64 p.1)).set (i * 2 + 1) (.string p.2) = pc (m.set i p) := by
  induction m generalizing i with
  | nil => simp [pc]
  | cons q m ih =>
    cases i with
    | zero => simp [pc]
    | succ i =>
      have h := ih i
      have e1 : (i + 1) * 2 = i * 2 + 1 + 1 := by omega
      have e2 : (i + 1) * 2 + 1 = i * 2 + 1 + 1 + 1 := by omega
      have e3 : ∀ l, pc (q :: l) = Value.int .i64 q.1 :: Value.string q.2 :: pc l := fun _ => rfl
      rw [List.set_cons_succ, e3, e3, e1]
      simp only [List.set_cons_succ]
      rw [h]
theorem pc_take (m : List (En)) (i : Nat) : (pc m).take (2 * i) = pc (m.take i) := by
  induction m generalizing i with
  | nil => simp [pc]
  | cons q m ih =>
    cases i with
    | zero => simp [pc]
    | succ i =>
      have e1 : 2 * (i + 1) = 2 * i + 1 + 1 := by omega
      have e3 : ∀ l, pc (q :: l) = Value.int .i64 q.1 :: Value.string q.2 :: pc l := fun _ => rfl
      rw [List.take_succ_cons, e3, e3, e1, List.take_succ_cons, List.take_succ_cons, ih]
theorem pc_oneCell (l : List (En)) : ∀ u ∈ pc l, u.oneCell' = true := by
  intro u hu
  unfold pc at hu
  obtain ⟨p, _, hp⟩ := List.mem_flatMap.1 hu
  simp at hp
  rcases hp with rfl | rfl <;> rfl

/-- The entries of a slice at address a, in blocks below B. -/
def SlAt (B : Nat) (w : World) (a : Option Addr) (ds : List (En)) : Prop :=
  ∀ k, k < ds.length → ∃ b off, a = some ⟨b, off, none⟩ ∧ b < B ∧ w.cell? ⟨b, off + k * 2, none⟩ = some (.int .i64 (ds.getD k e0).1) ∧ w.cell? ⟨b, off + k * 2 + 1, none⟩ = some (.string (ds.getD k e0).2)

theorem SlAt.nil (B : Nat) (w : World) (a : Option Addr) : SlAt B w a [] := fun k hk => by cases hk
theorem SlAt.below {B : Nat} {w w' : World} {a : Option Addr} {ds : List (En)} (h : SlAt B w a ds) (hb : Below B w w') : SlAt B w' a ds := fun k hk => by
  obtain ⟨b, off, e, hB, hc, hd⟩ := h k hk
  exact ⟨b, off, e, hB, (hb.cell (p := ⟨b, off + k * 2, none⟩) hB).trans hc, (hb.cell (p := ⟨b, off + k * 2 + 1, none⟩) hB).trans hd⟩
theorem SlAt.more {B B' : Nat} {w : World} {a : Option Addr} {ds : List (En)} (h : SlAt B w a ds) (hb : B ≤ B') : SlAt B' w a ds := fun k hk => by
  obtain ⟨b, off, e, hB, hc⟩ := h k hk
  exact ⟨b, off, e, by omega, hc⟩
theorem getD_take {α : Type} {l : List α} {d : α} {n k : Nat} (h : k < n) : (l.take n).getD k d = l.getD k d := by
  rw [List.getD_eq_getElem?_getD, List.getD_eq_getElem?_getD, List.getElem?_take_of_lt h]
theorem getD_drop {α : Type} {l : List α} {d : α} {n k : Nat} : (l.drop n).getD k d = l.getD (n + k) d := by
  rw [List.getD_eq_getElem?_getD, List.getD_eq_getElem?_getD, List.getElem?_drop]
theorem SlAt.take {B : Nat} {w : World} {a : Option Addr} {ds : List (En)} (h : SlAt B w a ds) (n : Nat) : SlAt B w a (ds.take n) := fun k hk => by
  rw [List.length_take] at hk
  obtain ⟨b, off, e, hB, hc⟩ := h k (by omega)
  rw [getD_take (by omega)]
  exact ⟨b, off, e, hB, hc⟩
theorem SlAt.drop {B : Nat} {w : World} {b off : Nat} {ds : List (En)} (h : SlAt B w (some ⟨b, off, none⟩) ds) (n : Nat) : SlAt B w (some ⟨b, off + n * 2, none⟩) (ds.drop n) := fun k hk => by
  rw [List.length_drop] at hk
  obtain ⟨b', off', e, hB, hc, hd⟩ := h (n + k) (by omega)
  injection e with e; injection e with e1 e2
  subst e1; subst e2
  rw [getD_drop]
  refine ⟨b, off + n * 2, rfl, hB, ?_, ?_⟩
  · rw [← hc]; congr 2; omega
  · rw [← hd]; congr 2; omega

/-- A slice value v with the entries ds, owned from block B on. -/
def OwnE (w : World) (B : Nat) (v : Value) (ds : List (En)) : Prop := w.ownsRow B 33 2 v ds.length (pc ds)
section
variable {w w' : World} {B B' : Nat} {v : Value} {ds : List (En)}
theorem OwnE.nil (w : World) (B : Nat) : OwnE w B (.slice none 0 0) [] := World.ownsRow_nil w B 33 2
theorem OwnE.below (h : OwnE w B v ds) (hb : Below w.heap.size w w') : OwnE w' B v ds :=
  World.ownsRow.kept (row := none) h ⟨hb.os, hb.tape, hb.output, hb.size, fun k hk _ => hb.block k hk⟩ (by cases v.ownBlock <;> simp)
theorem OwnE.mono (h : OwnE w B v ds) (hb : B' ≤ B) : OwnE w B' v ds := World.ownsRow.mono h hb
theorem OwnE.lt {g n cap : Nat} (h : OwnE w B (.slice (some ⟨g, 0, none⟩) n cap) ds) : B ≤ g ∧ g < w.heap.size := World.ownsRow.lt h g rfl
theorem OwnE.at_ (h : OwnE w B v ds) : ∃ A c, v = .slice A ds.length c ∧ ds.length ≤ c ∧ c ≤ 9223372036854775807 ∧ SlAt w.heap.size w A ds := by
  rcases h.2 with ⟨rfl, hn⟩ | ⟨g, cap, cur, rfl, hb, hg, hnc, hcm, hcs, htake⟩
  · have : ds = [] := List.eq_nil_of_length_eq_zero hn
    subst this
    exact ⟨none, 0, rfl, by simp, by omega, SlAt.nil _ _ _⟩
  · refine ⟨_, cap, rfl, by omega, by unfold maxLen at hcm; omega, fun k hk => ⟨g, 0, rfl, (Array.getElem?_eq_some_iff.1 hg).1, ?_⟩⟩
    obtain ⟨f1, f2⟩ := pc_get ds k hk
    have e : ds.getD k e0 = ds[k] := by rw [List.getD_eq_getElem?_getD, List.getElem?_eq_getElem hk]; rfl
    rw [e, Nat.zero_add, World.ownsRow.cellAt h (k * 2) (by omega), World.ownsRow.cellAt h (k * 2 + 1) (by omega), Nat.mul_comm]
    exact ⟨f1, f2⟩
end


/-- The place of an entry. -/
def pos : List En → En → Nat
  | [], _ => 0
  | e :: es, p => if e = p then 0 else pos es p + 1
theorem pos_lt {es : List En} {p : En} : p ∈ es ↔ pos es p < es.length := by
  induction es with
  | nil => simp [pos]
  | cons e es ih =>
    unfold pos
    by_cases h : e = p
    · simp [h]
    · rw [if_neg h, List.mem_cons, List.length_cons, ih]
      constructor
      · rintro (h1 | h1)
        · exact absurd h1.symm h
        · omega
      · intro h1
        exact .inr (by omega)
theorem pos_le (es : List En) (p : En) : pos es p ≤ es.length := by
  induction es with
  | nil => simp [pos]
  | cons e es ih =>
    unfold pos
    split
    · simp
    · simp; omega
theorem pos_get {es : List En} {p : En} (h : p ∈ es) : es.getD (pos es p) e0 = p := by
  induction es with
  | nil => cases h
  | cons e es ih =>
    unfold pos
    by_cases h1 : e = p
    · simp [h1]
    · rw [if_neg h1, List.getD_cons_succ]
      exact ih (by simpa [Ne.symm h1] using h)
theorem pos_of_get {es : List En} {p : En} {i : Nat} (hn : es.Nodup) (hi : i < es.length) (hg : es.getD i e0 = p) : pos es p = i := by
  induction es generalizing i with
  | nil => cases hi
  | cons e es ih =>
    unfold pos
    obtain ⟨n1, n2⟩ := List.nodup_cons.1 hn
    cases i with
    | zero => rw [if_pos (by simpa using hg)]
    | succ i =>
      rw [List.getD_cons_succ] at hg
      have hi' : i < es.length := by simpa using hi
      have hm : p ∈ es := by
        rw [← hg, List.getD_eq_getElem?_getD, List.getElem?_eq_getElem hi']
        exact List.getElem_mem hi'
      rw [if_neg (by rintro rfl; exact n1 hm), ih n2 hi' hg]
theorem pos_append {es : List En} {p q : En} (h : p ∈ es) : pos (es ++ [q]) p = pos es p := by
  induction es with
  | nil => cases h
  | cons e es ih =>
    rw [List.cons_append]
    unfold pos
    by_cases h1 : e = p
    · simp [h1]
    · rw [if_neg h1, if_neg h1, ih (by simpa [Ne.symm h1] using h)]
theorem pos_new {es : List En} {q : En} (h : q ∉ es) : pos (es ++ [q]) q = es.length := by
  induction es with
  | nil => simp [pos]
  | cons e es ih =>
    rw [List.cons_append]
    unfold pos
    obtain ⟨h1, h2⟩ := not_or.1 (fun h' => h (List.mem_cons.2 h'))
    rw [if_neg (Ne.symm h1), ih h2, List.length_cons]

/-- What the map of a ring holds. -/
def marks (es : List En) (p : En) : Option Value := if pos es p < es.length then some (.int .i64 (pos es p)) else none
theorem marks_in {es : List En} {p : En} (h : p ∈ es) : marks es p = some (.int .i64 (pos es p)) := by unfold marks; rw [if_pos (pos_lt.1 h)]
theorem marks_out {es : List En} {p : En} (h : p ∉ es) : marks es p = none := by unfold marks; rw [if_neg (fun h' => h (pos_lt.2 h'))]
theorem marks_add {es : List En} {q : En} (h : q ∉ es) (p : En) : marks (es ++ [q]) p = if p = q then some (.int .i64 es.length) else marks es p := by
  by_cases hp : p = q
  · subst hp
    rw [marks_in (by simp), if_pos rfl, pos_new h]
  · rw [if_neg hp]
    by_cases hm : p ∈ es
    · rw [marks_in (by simp [hm]), marks_in hm, pos_append hm]
    · rw [marks_out (by simp [hm, hp]), marks_out hm]

end Go.Proofs.Ytmlhladdoalfdaa
