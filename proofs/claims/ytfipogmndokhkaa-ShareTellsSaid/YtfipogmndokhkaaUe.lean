/- Memory: shares; walks of evaluate, allRight, isTwice. -/
import Derived.Test.YtfipogmndokhkaaUd
import Derived.Laws.Rows
namespace Go.Proofs.Ytfipogmndokhkaa
open Go.RowKit

def Blk (w : World) (g : Nat) (t : TypeId) (cs : Array Value) : Prop := w.heap[g]? = some (.cells cs t (0, 0))
section
variable {w w' : World} {g : Nat} {t : TypeId} {cs : Array Value}
theorem Blk.lt (h : Blk w g t cs) : g < w.heap.size := by
  rcases Nat.lt_or_ge g w.heap.size with hlt | hge
  · exact hlt
  · unfold Blk at h; rw [Array.getElem?_eq_none hge] at h; cases h
theorem Blk.cell (h : Blk w g t cs) (i : Nat) : w.cell? ⟨g, i, none⟩ = cs[i]? := cell_of_row w g i cs t (0, 0) h
theorem Blk.frozen (h : Blk w g t cs) (i : Nat) : w.frozen? ⟨g, i, none⟩ = false := by
  unfold Blk at h
  simp [World.frozen?, h]
theorem Blk.new (w : World) (t : TypeId) (cs : Array Value) : Blk (w.alloc (.cells cs t)) w.heap.size t cs := heap_alloc_new w _
theorem Blk.drewN (h : Blk w g t cs) (n : Nat) : Blk (w.drewN n) g t cs := h
theorem Blk.alloc (h : Blk w g t cs) (o : Obj) : Blk (w.alloc o) g t cs := (Below.heap_alloc w o g h.lt).trans h
theorem Blk.set_ (h : Blk w g t cs) (i : Nat) (u : Value) : Blk (w.setCell ⟨g, i, none⟩ u) g t (cs.setIfInBounds i u) := by
  unfold Blk at h ⊢
  simp [World.setCell, Array.getElem?_modify, h]
theorem Blk.far (h : Blk w g t cs) {p : Addr} (hp : g ≠ p.block) (u : Value) : Blk (w.setCell p u) g t cs := (Below.heap_setCell w p u g hp).trans h
theorem Blk.below {B : Nat} (h : Blk w g t cs) (hb : Below B w w') (hg : g < B) : Blk w' g t cs := (hb.block g hg).trans h
end

def pc (l : List (Int × Int)) : List Value := l.flatMap fun p => [Value.int .i64 p.1, Value.int .i64 p.2]
theorem pc_length (l : List (Int × Int)) : (pc l).length = l.length * 2 := by
  induction l with
  | nil => rfl
  | cons p l ih => simp only [pc, List.flatMap_cons, List.length_append, List.length_cons, List.length_nil] at ih ⊢; omega
theorem pc_append (a b : List (Int × Int)) : pc (a ++ b) = pc a ++ pc b := by simp [pc]
theorem pc_get (l : List (Int × Int)) (j : Nat) (h : j < l.length) : (pc l)[2 * j]? = some (.int .i64 l[j].1) ∧ (pc l)[2 * j + 1]? = some (.int .i64 l[j].2) := by
  induction l generalizing j with
  | nil => simp at h
  | cons p l ih =>
    cases j with
    | zero => simp [pc]
    | succ j =>
      have h1 := ih j (by simpa using h)
      have e1 : 2 * (j + 1) = 2 * j + 1 + 1 := by omega
      have e2 : 2 * (j + 1) + 1 = 2 * j + 1 + 1 + 1 := by omega
      simp only [pc, List.flatMap_cons] at h1 ⊢
      rw [e1]
      simpa using h1
theorem pc_set (m : List (Int × Int)) (i : Nat) (p : Int × Int) : ((pc m).set (i * 2) (.int .i64 p.1)).set (i * 2 + 1) (.int .i64 p.2) = pc (m.set i p) := by
  induction m generalizing i with
  | nil => simp [pc]
  | cons q m ih =>
    cases i with
    | zero => simp [pc]
    | succ i =>
      have h := ih i
      have e1 : (i + 1) * 2 = i * 2 + 1 + 1 := by omega
      have e2 : (i + 1) * 2 + 1 = i * 2 + 1 + 1 + 1 := by omega
      have e3 : ∀ l, pc (q :: l) = Value.int .i64 q.1 :: Value.int .i64 q.2 :: pc l := fun _ => rfl
      rw [List.set_cons_succ, e3, e3, e1]
      simp only [List.set_cons_succ]
      rw [h]
theorem pc_take (m : List (Int × Int)) (i : Nat) : (pc m).take (2 * i) = pc (m.take i) := by
  induction m generalizing i with
  | nil => simp [pc]
  | cons q m ih =>
    cases i with
    | zero => simp [pc]
    | succ i =>
      have e1 : 2 * (i + 1) = 2 * i + 1 + 1 := by omega
      have e3 : ∀ l, pc (q :: l) = Value.int .i64 q.1 :: Value.int .i64 q.2 :: pc l := fun _ => rfl
      rw [List.take_succ_cons, e3, e3, e1, List.take_succ_cons, List.take_succ_cons, ih]
theorem pc_oneCell (l : List (Int × Int)) : ∀ u ∈ pc l, u.oneCell' = true := by
  intro u hu
  unfold pc at hu
  obtain ⟨p, _, hp⟩ := List.mem_flatMap.1 hu
  simp at hp
  rcases hp with rfl | rfl <;> rfl

/-- The shares of a slice at address a, in blocks below B. -/
def ShAt (B : Nat) (w : World) (a : Option Addr) (ds : List (Int × Int)) : Prop :=
  ∀ k, k < ds.length → ∃ b off, a = some ⟨b, off, none⟩ ∧ b < B ∧ w.cell? ⟨b, off + k * 2, none⟩ = some (.int .i64 (ds.getD k (0, 0)).1) ∧ w.cell? ⟨b, off + k * 2 + 1, none⟩ = some (.int .i64 (ds.getD k (0, 0)).2)

theorem ShAt.nil (B : Nat) (w : World) (a : Option Addr) : ShAt B w a [] := fun k hk => by cases hk
theorem ShAt.below {B : Nat} {w w' : World} {a : Option Addr} {ds : List (Int × Int)} (h : ShAt B w a ds) (hb : Below B w w') : ShAt B w' a ds := fun k hk => by
  obtain ⟨b, off, e, hB, hc, hd⟩ := h k hk
  exact ⟨b, off, e, hB, (hb.cell (p := ⟨b, off + k * 2, none⟩) hB).trans hc, (hb.cell (p := ⟨b, off + k * 2 + 1, none⟩) hB).trans hd⟩
theorem ShAt.more {B B' : Nat} {w : World} {a : Option Addr} {ds : List (Int × Int)} (h : ShAt B w a ds) (hb : B ≤ B') : ShAt B' w a ds := fun k hk => by
  obtain ⟨b, off, e, hB, hc⟩ := h k hk
  exact ⟨b, off, e, by omega, hc⟩
theorem getD_take {α : Type} {l : List α} {d : α} {n k : Nat} (h : k < n) : (l.take n).getD k d = l.getD k d := by
  rw [List.getD_eq_getElem?_getD, List.getD_eq_getElem?_getD, List.getElem?_take_of_lt h]
theorem getD_drop {α : Type} {l : List α} {d : α} {n k : Nat} : (l.drop n).getD k d = l.getD (n + k) d := by
  rw [List.getD_eq_getElem?_getD, List.getD_eq_getElem?_getD, List.getElem?_drop]
theorem ShAt.take {B : Nat} {w : World} {a : Option Addr} {ds : List (Int × Int)} (h : ShAt B w a ds) (n : Nat) : ShAt B w a (ds.take n) := fun k hk => by
  rw [List.length_take] at hk
  obtain ⟨b, off, e, hB, hc⟩ := h k (by omega)
  rw [getD_take (by omega)]
  exact ⟨b, off, e, hB, hc⟩
theorem ShAt.drop {B : Nat} {w : World} {b off : Nat} {ds : List (Int × Int)} (h : ShAt B w (some ⟨b, off, none⟩) ds) (n : Nat) : ShAt B w (some ⟨b, off + n * 2, none⟩) (ds.drop n) := fun k hk => by
  rw [List.length_drop] at hk
  obtain ⟨b', off', e, hB, hc, hd⟩ := h (n + k) (by omega)
  injection e with e; injection e with e1 e2
  subst e1; subst e2
  rw [getD_drop]
  refine ⟨b, off + n * 2, rfl, hB, ?_, ?_⟩
  · rw [← hc]; congr 2; omega
  · rw [← hd]; congr 2; omega

/-- A slice value v with the shares ds, owned from block B on. -/
def OwnS (w : World) (B : Nat) (v : Value) (ds : List (Int × Int)) : Prop := w.ownsRow B 39 2 v ds.length (pc ds)
section
variable {w w' : World} {B B' : Nat} {v : Value} {ds : List (Int × Int)}
theorem OwnS.nil (w : World) (B : Nat) : OwnS w B (.slice none 0 0) [] := World.ownsRow_nil w B 39 2
theorem OwnS.below (h : OwnS w B v ds) (hb : Below w.heap.size w w') : OwnS w' B v ds :=
  World.ownsRow.kept (row := none) h ⟨hb.os, hb.tape, hb.output, hb.size, fun k hk _ => hb.block k hk⟩ (by cases v.ownBlock <;> simp)
theorem OwnS.mono (h : OwnS w B v ds) (hb : B' ≤ B) : OwnS w B' v ds := World.ownsRow.mono h hb
theorem OwnS.lt {g n cap : Nat} (h : OwnS w B (.slice (some ⟨g, 0, none⟩) n cap) ds) : B ≤ g ∧ g < w.heap.size := World.ownsRow.lt h g rfl
theorem OwnS.at_ (h : OwnS w B v ds) : ∃ A c, v = .slice A ds.length c ∧ ds.length ≤ c ∧ c ≤ 9223372036854775807 ∧ ShAt w.heap.size w A ds := by
  rcases h.2 with ⟨rfl, hn⟩ | ⟨g, cap, cur, rfl, hb, hg, hnc, hcm, hcs, htake⟩
  · have : ds = [] := List.eq_nil_of_length_eq_zero hn
    subst this
    exact ⟨none, 0, rfl, by simp, by omega, ShAt.nil _ _ _⟩
  · refine ⟨_, cap, rfl, by omega, by unfold maxLen at hcm; omega, fun k hk => ⟨g, 0, rfl, (Array.getElem?_eq_some_iff.1 hg).1, ?_⟩⟩
    obtain ⟨f1, f2⟩ := pc_get ds k hk
    have e : ds.getD k (0, 0) = ds[k] := by rw [List.getD_eq_getElem?_getD, List.getElem?_eq_getElem hk]; rfl
    rw [e, Nat.zero_add, World.ownsRow.cellAt h (k * 2) (by omega), World.ownsRow.cellAt h (k * 2 + 1) (by omega), Nat.mul_comm]
    exact ⟨f1, f2⟩
end

theorem ints_get {cs : List Int} (k : Nat) (h : ∀ c ∈ cs, 0 ≤ c ∧ c < 2147483647) : 0 ≤ cs.getD k 0 ∧ cs.getD k 0 < 2147483647 := by
  rcases Nat.lt_or_ge k cs.length with h1 | h1
  · rw [List.getD_eq_getElem?_getD, List.getElem?_eq_getElem h1]
    exact h _ (List.getElem_mem h1)
  · rw [List.getD_eq_getElem?_getD, List.getElem?_eq_none h1]
    decide
theorem ev_drop (cs : List Int) (x : Int) (k : Nat) (h : k < cs.length) : ev (cs.drop k) x = ev (cs.drop (k + 1)) x * x + cs.getD k 0 := by
  rw [List.drop_eq_getElem_cons h, ev, List.getD_eq_getElem?_getD, List.getElem?_eq_getElem h]
  rfl

set_option maxRecDepth 100000 in
set_option maxHeartbeats 2000000 in
theorem evaluate_any (cs : List Int) (v : Value) (x : Int) (B : Nat) (w : World) (ho : OwnI w B v cs) (hl : cs.length ≤ 1000) (hf : ∀ c ∈ cs, 0 ≤ c ∧ c < 2147483647) (hx0 : 0 ≤ x) (hx1 : x ≤ 20) :
    Calls Try.prog 20 #[v, .int .i64 x] w fun e w' => ∃ z, e = .returned (.int .i64 z) ∧ 0 ≤ z ∧ z < 2147483647 ∧ Cg z (ev cs x) ∧ w = w' := by
  obtain ⟨A, c, rfl, hnc, hcm, hI⟩ := ho.at_
  clear ho
  have HF := Lib.hid hf; clear hf
  have HI := Lib.hid hI; clear hI
  obtain ⟨n, hn⟩ : ∃ n, cs.length = n := ⟨_, rfl⟩
  rw [hn] at hl hnc ⊢
  have HN := Lib.hid hn; clear hn
  go_enter Try.func20, Try.ntmps20
  go_wp2_with fail
  go_loop [5, 6] (fun zv iv => ∃ (z : Int) (k : Nat), k ≤ n ∧ zv = .int .i64 z ∧ iv = .int .i64 ((k : Int) - 1) ∧ 0 ≤ z ∧ z < 2147483647 ∧ Hid (Cg z (ev (cs.drop k) x))) (fun _ iv => (intOf iv + 1).toNat)
  case atStart => exact ⟨0, n, Nat.le_refl _, rfl, rfl, by omega, by omega, Lib.hid (by rw [List.drop_eq_nil_of_le (by have := HN.out; omega)]; exact Cg.refl 0)⟩
  case round =>
    obtain ⟨z, k, hk, rfl, rfl, hz0, hz1, hv⟩ := hrel
    by_cases hgo : 0 < k
    · obtain ⟨j, rfl⟩ : ∃ j, k = j + 1 := ⟨k - 1, by omega⟩
      have hj : ((j + 1 : Nat) : Int) - 1 = (j : Int) := by omega
      rw [hj]
      obtain ⟨b, off, hA, _, hc⟩ := HI.out j (by have := HN.out; omega)
      subst hA
      obtain ⟨hd0, hd1⟩ := ints_get j HF.out
      have hev := ev_drop cs x j (by have := HN.out; omega)
      obtain ⟨d, hd⟩ : ∃ d, cs.getD j 0 = d := ⟨_, rfl⟩
      rw [hd] at hc hd0 hd1 hev
      clear hd
      have hzx0 : 0 ≤ z * x := Int.mul_nonneg hz0 hx0
      have hzx1 : z * x ≤ 2147483646 * 20 := Int.mul_le_mul (by omega) hx1 hx0 (by omega)
      have hnew : Hid (Cg ((z * x + d) % 2147483647) (ev (cs.drop j) x)) := Lib.hid (by
        rw [hev]
        exact (Cg.mod _).trans ((hv.out.mul (Cg.refl x)).add (Cg.refl d)))
      clear hev
      go_wp2_with fail
      go_round
      case rel => exact ⟨_, j, by omega, rfl, rfl, by omega, by omega, hnew⟩
      case measure => simp [intOf]
    · have : k = 0 := by omega
      subst this
      go_wp2_with fail
      go_ret
      exact ⟨_, rfl, hz0, hz1, hv.out, rfl⟩

end Go.Proofs.Ytfipogmndokhkaa
