/- Walks: the queue's methods. -/
import Derived.Test.YteiojobgjdfdpaaQa
import Derived.Test.YteiojobgjdfdpaaCc
import Derived.Deep.RegionHeld3
import Derived.Laws.AppendOwn
import Derived.Deep.Cut
import Derived.Deep.CutRange
namespace Go.Proofs.Yteiojobgjdfdpaa
open Go.RowKit

set_option maxRecDepth 100000 in
theorem isNaN_any (t : Int) (w : World) :
    Calls Try.prog 102 #[.int .i64 t] w fun e w' => e = .returned (.bool false) ∧ w = w' := by
  go_enter Try.func102, Try.ntmps102
  go_wp2_with fail
  go_ret
  exact ⟨by rfl, rfl⟩

def cmpI (a b : Int) : Int := if a < b then -1 else if b < a then 1 else 0
set_option maxRecDepth 100000 in
set_option maxHeartbeats 2000000 in
theorem compare_any (a b : Int) (w : World) :
    Calls Try.prog 101 #[.int .i64 a, .int .i64 b] w fun e w' => e = .returned (.int .i64 (cmpI a b)) ∧ w = w' := by
  obtain ⟨c, hc⟩ : ∃ c, cmpI a b = c := ⟨_, rfl⟩
  rw [hc]
  have HC := Lib.hid hc; clear hc
  go_enter Try.func101, Try.ntmps101
  go_wp2_with fail
  refine (isNaN_any a w).mono ?_
  rintro e w1 ⟨rfl, rfl⟩
  go_wp2_with fail
  refine (isNaN_any b w).mono ?_
  rintro e w2 ⟨rfl, rfl⟩
  by_cases h1 : a < b
  · go_wp2_with fail
    go_ret
    exact ⟨by rw [← HC.out, cmpI, if_pos h1]; rfl, rfl⟩
  · by_cases h2 : b < a
    · go_wp2_with fail
      go_ret
      exact ⟨by rw [← HC.out, cmpI, if_neg (by omega), if_pos h2]; rfl, rfl⟩
    · go_wp2_with fail
      go_ret
      exact ⟨by rw [← HC.out, cmpI, if_neg (by omega), if_neg (by omega)]; rfl, rfl⟩

set_option maxRecDepth 100000 in
set_option maxHeartbeats 2000000 in
theorem or_any (a b : Int) (g : Nat) (w : World) (h0 : w.cell? ⟨g, 0, none⟩ = some (.int .i64 a)) (h1 : w.cell? ⟨g, 1, none⟩ = some (.int .i64 b)) :
    Calls Try.prog 100 #[.slice (some ⟨g, 0, none⟩) 2 2] w fun e w' => e = .returned (.int .i64 (if a = 0 then b else a)) ∧ w = w' := by
  obtain ⟨c, hc⟩ : ∃ c, (if a = 0 then b else a) = c := ⟨_, rfl⟩
  rw [hc]
  have HC := Lib.hid hc; clear hc
  go_enter Try.func100, Try.ntmps100
  go_wp2_with fail
  go_loop [8] (fun iv => ∃ i : Nat, i ≤ 2 ∧ iv = .int .i64 i ∧ Hid (0 < i → a = 0) ∧ Hid (i = 2 → b = 0)) (fun iv => 2 - (intOf iv).toNat)
  case atStart => exact ⟨0, by omega, rfl, Lib.hid (fun h => by omega), Lib.hid (fun h => by omega)⟩
  case round =>
    obtain ⟨i, hi, rfl, hA, hB⟩ := hrel
    match i, hi with
    | 0, _ =>
      by_cases ha : (a == 0) = true
      · have e : a = 0 := by simpa using ha
        subst e
        go_wp2_with fail
        go_round
        case rel => exact ⟨1, by omega, rfl, Lib.hid (by simp), Lib.hid (by simp)⟩
        case measure => simp [intOf]
      · have hn : (a != 0) = true := by simpa using ha
        go_wp2_with fail
        go_ret
        exact ⟨by rw [← HC.out, if_neg (by simpa using ha)]; rfl, rfl⟩
    | 1, _ =>
      have h1 : w.cell? ⟨g, 0 + 1, none⟩ = some (.int .i64 b) := h1
      by_cases hb : (b == 0) = true
      · have e : b = 0 := by simpa using hb
        subst e
        go_wp2_with fail
        go_round
        case rel => exact ⟨2, by omega, rfl, Lib.hid (fun _ => hA.out (by omega)), Lib.hid (by simp)⟩
        case measure => simp [intOf]
      · have hn : (b != 0) = true := by simpa using hb
        go_wp2_with fail
        go_ret
        exact ⟨by rw [← HC.out, if_pos (hA.out (by omega))]; rfl, rfl⟩
    | 2, _ =>
      have hb := hB.out rfl
      have ha := hA.out (by omega)
      subst hb; subst ha
      go_wp2_with fail
      go_ret
      exact ⟨by rw [← HC.out]; simp, rfl⟩

/-- The cells of a queue. -/
def flat (q : List En) : List Value := q.flatMap fun e => [.int .i64 e.1, .int .i64 e.2]
theorem flat_len (q : List En) : (flat q).length = q.length * 2 := by
  induction q with
  | nil => rfl
  | cons e q ih => show ([Value.int .i64 e.1, .int .i64 e.2] ++ flat q).length = _; rw [List.length_append, ih]; simp; omega
theorem flat_get : ∀ (q : List En) (k : Nat), k < q.length → (flat q)[k * 2]? = some (.int .i64 (gq q k).1) ∧ (flat q)[k * 2 + 1]? = some (.int .i64 (gq q k).2)
  | e :: q, 0, _ => ⟨rfl, rfl⟩
  | e :: q, k + 1, h => by
    have := flat_get q k (by simpa using h)
    have e1 : (flat (e :: q)) = Value.int .i64 e.1 :: Value.int .i64 e.2 :: flat q := rfl
    rw [e1, show (k + 1) * 2 = k * 2 + 1 + 1 by omega]
    simp only [List.getElem?_cons_succ]
    simpa [gq] using this
theorem flat_snoc (q : List En) (e : En) : flat (q ++ [e]) = flat q ++ [.int .i64 e.1, .int .i64 e.2] := by simp [flat]
def OwnQ (w : World) (B : Nat) (v : Value) (q : List En) : Prop := w.ownsRow B 85 2 v q.length (flat q)
section
variable {w w' : World} {B : Nat} {v : Value} {q : List En}
theorem OwnQ.below (h : OwnQ w B v q) (hb : Below w.heap.size w w') : OwnQ w' B v q :=
  World.ownsRow.kept (row := none) h ⟨hb.os, hb.tape, hb.output, hb.size, fun k hk _ => hb.block k hk⟩ (by cases v.ownBlock <;> simp)
theorem OwnQ.some_of (h : OwnQ w B v q) (hl : 0 < q.length) : ∃ g c, v = .slice (some ⟨g, 0, none⟩) q.length c ∧ B ≤ g ∧ g < w.heap.size ∧ q.length ≤ c := by
  rcases h.2 with ⟨rfl, hn⟩ | ⟨g, cap, cur, rfl, hb, hg, hnc, hcm, hcs, htake⟩
  · omega
  · exact ⟨g, cap, rfl, hb, (Array.getElem?_eq_some_iff.1 hg).1, hnc⟩
theorem OwnQ.cells {g n c : Nat} (h : OwnQ w B (.slice (some ⟨g, 0, none⟩) n c) q) (hn : q.length = n) {k : Nat} (hk : k < n) : w.cell? ⟨g, k * 2, none⟩ = some (.int .i64 (gq q k).1) ∧ w.cell? ⟨g, k * 2 + 1, none⟩ = some (.int .i64 (gq q k).2) := by
  subst hn
  obtain ⟨h1, h2⟩ := flat_get q k hk
  exact ⟨(World.ownsRow.cellAt h (k * 2) (by omega)).trans h1, (World.ownsRow.cellAt h (k * 2 + 1) (by omega)).trans h2⟩
end

theorem two_new0 (w : World) (t : TypeId) (a b : Value) : (w.alloc (.cells #[a, b] t)).drew.cell? ⟨w.heap.size, 0, none⟩ = some a := (Blk.new w t #[a, b]).cell 0
theorem two_new1 (w : World) (t : TypeId) (a b : Value) : (w.alloc (.cells #[a, b] t)).drew.cell? ⟨w.heap.size, 1, none⟩ = some b := (Blk.new w t #[a, b]).cell 1
/-- What Less says. -/
theorem cmp_lt (a b : En) : decide ((if cmpI a.1 b.1 = 0 then cmpI a.2 b.2 else cmpI a.1 b.1) < 0) = decide (En.lt a b) := by
  apply decide_eq_decide.2
  unfold cmpI En.lt
  repeat' split
  all_goals omega
set_option maxRecDepth 100000 in
set_option maxHeartbeats 4000000 in
theorem less_any (q : List En) (g n c i j : Nat) (B : Nat) (w : World) (hq : OwnQ w B (.slice (some ⟨g, 0, none⟩) n c) q) (hn : q.length = n) (hi : i < n) (hj : j < n) (r : Bool) (hr : decide (En.lt (gq q i) (gq q j)) = r) :
    Calls Try.prog 98 #[.slice (some ⟨g, 0, none⟩) n c, .int .i64 i, .int .i64 j] w fun e w' => e = .returned (.bool r) ∧ Below w.heap.size w w' := by
  obtain ⟨i1, i2⟩ := hq.cells hn hi
  obtain ⟨j1, j2⟩ := hq.cells hn hj
  rw [← cmp_lt] at hr
  obtain ⟨a1, h1⟩ : ∃ x, (gq q i).1 = x := ⟨_, rfl⟩
  obtain ⟨a2, h2⟩ : ∃ x, (gq q i).2 = x := ⟨_, rfl⟩
  obtain ⟨b1, h3⟩ : ∃ x, (gq q j).1 = x := ⟨_, rfl⟩
  obtain ⟨b2, h4⟩ : ∃ x, (gq q j).2 = x := ⟨_, rfl⟩
  rw [h1] at i1 hr; rw [h2] at i2 hr; rw [h3] at j1 hr; rw [h4] at j2 hr
  clear h1 h2 h3 h4 hq hn
  obtain ⟨x, hx⟩ : ∃ x, cmpI a1 b1 = x := ⟨_, rfl⟩
  obtain ⟨y, hy⟩ : ∃ y, cmpI a2 b2 = y := ⟨_, rfl⟩
  obtain ⟨z, hz⟩ : ∃ z, (if x = 0 then y else x) = z := ⟨_, rfl⟩
  rw [hx, hy, hz] at hr
  have C1 := Lib.hid (fun w => hx ▸ compare_any a1 b1 w)
  have C2 := Lib.hid (fun w => hy ▸ compare_any a2 b2 w)
  have C3 := Lib.hid (fun g w h0 h1 => hz ▸ or_any x y g w h0 h1)
  have E0 : Hid (∀ W', Below w.heap.size w W' → W'.cell? ⟨g, i * 2, none⟩ = some (.int .i64 a1) ∧ W'.cell? ⟨g, i * 2 + 1, none⟩ = some (.int .i64 a2) ∧ W'.cell? ⟨g, j * 2, none⟩ = some (.int .i64 b1) ∧ W'.cell? ⟨g, j * 2 + 1, none⟩ = some (.int .i64 b2)) :=
    Lib.hid (fun W' hb => ⟨(hb.cell (block_lt_of_cell i1)).trans i1, (hb.cell (block_lt_of_cell i2)).trans i2, (hb.cell (block_lt_of_cell j1)).trans j1, (hb.cell (block_lt_of_cell j2)).trans j2⟩)
  have HR := Lib.hid hr
  clear hx hy hz hr
  go_enter Try.func98, Try.ntmps98
  go_wp2_with fail
  go_region_held3 (fun W' => W'.cell? ⟨g, i * 2, none⟩ = some (.int .i64 a1) ∧ W'.cell? ⟨g, i * 2 + 1, none⟩ = some (.int .i64 a2) ∧ W'.cell? ⟨g, j * 2, none⟩ = some (.int .i64 b1) ∧ W'.cell? ⟨g, j * 2 + 1, none⟩ = some (.int .i64 b2))
    (first | exact E0.out _ (Below.refl _ _).drew | exact E0.out _ ((Below.refl _ _).drew.alloc (Nat.le_refl _) _))
    (first
      | (go_at_call 101; (first | with_reducible refine (C1.out _).mono ?_ | with_reducible refine (C2.out _).mono ?_); rintro e w1 ⟨rfl, rfl⟩)
      | (go_at_call 100; refine (C3.out _ _ (two_new0 _ _ _ _) (two_new1 _ _ _ _)).mono ?_; rintro e w1 ⟨rfl, rfl⟩))
  all_goals
    go_wp2_with fail
    go_ret
    exact ⟨by rw [← HR.out]; rfl, (Below.refl _ _).drew.alloc (Nat.le_refl _) _⟩


/-- An entry of a queue is stored. -/
def st2 (w : World) (g k : Nat) (e : En) : World := (w.setCell ⟨g, k * 2, none⟩ (.int .i64 e.1)).setCell ⟨g, k * 2 + 1, none⟩ (.int .i64 e.2)
theorem flat_set : ∀ (q : List En) (k : Nat) (e : En), k < q.length → ((flat q).set (k * 2) (.int .i64 e.1)).set (k * 2 + 1) (.int .i64 e.2) = flat (q.set k e)
  | x :: q, 0, e, _ => rfl
  | x :: q, k + 1, e, h => by
    have := flat_set q k e (by simpa using h)
    have e1 : (flat (x :: q)) = Value.int .i64 x.1 :: Value.int .i64 x.2 :: flat q := rfl
    rw [e1, show (k + 1) * 2 = k * 2 + 1 + 1 by omega, List.set_cons_succ, List.set_cons_succ, List.set_cons_succ, List.set_cons_succ, this, List.set_cons_succ]
    rfl
theorem OwnQ.store {w : World} {B g n c : Nat} {q : List En} (h : OwnQ w B (.slice (some ⟨g, 0, none⟩) n c) q) (hn : q.length = n) {k : Nat} (hk : k < n) (e : En) : OwnQ (st2 w g k e) B (.slice (some ⟨g, 0, none⟩) n c) (q.set k e) := by
  subst hn
  have h1 := (World.ownsRow.stored h (k * 2) (.int .i64 e.1)).1
  have h2 := (World.ownsRow.stored h1 (k * 2 + 1) (.int .i64 e.2)).1
  rw [flat_set q k e hk] at h2
  unfold OwnQ st2
  rw [List.length_set]
  exact h2
theorem OwnQ.frozen {w : World} {B g n c : Nat} {q : List En} (h : OwnQ w B (.slice (some ⟨g, 0, none⟩) n c) q) (hn : q.length = n) (k : Nat) : w.frozen? ⟨g, k, none⟩ = false := by
  subst hn
  exact World.ownsRow.frozenAt h k
theorem OwnQ.lt {w : World} {B g n c : Nat} {q : List En} (h : OwnQ w B (.slice (some ⟨g, 0, none⟩) n c) q) : B ≤ g ∧ g < w.heap.size := World.ownsRow.lt h g rfl

/-- Nothing has turned but new blocks, and the blocks of S. -/
def Fr (S : Nat → Prop) (w w' : World) : Prop :=
  w'.os = w.os ∧ w'.tape = w.tape ∧ w'.output = w.output ∧ w.heap.size ≤ w'.heap.size ∧ ∀ b, b < w.heap.size → ¬ S b → w'.heap[b]? = w.heap[b]?
theorem Fr.size {S : Nat → Prop} {w w' : World} (h : Fr S w w') : w.heap.size ≤ w'.heap.size := h.2.2.2.1
theorem Fr.of_below {S : Nat → Prop} {w w' : World} (h : Below w.heap.size w w') : Fr S w w' := ⟨h.os, h.tape, h.output, h.size, fun b hb _ => h.block b hb⟩
theorem Fr.refl (S : Nat → Prop) (w : World) : Fr S w w := ⟨rfl, rfl, rfl, Nat.le_refl _, fun _ _ _ => rfl⟩
theorem Fr.trans {S S' T : Nat → Prop} {w w' w'' : World} (h : Fr S w w') (h' : Fr S' w' w'') (h1 : ∀ b, S b → T b) (h2 : ∀ b, b < w.heap.size → S' b → T b) : Fr T w w'' :=
  ⟨h'.1.trans h.1, h'.2.1.trans h.2.1, h'.2.2.1.trans h.2.2.1, Nat.le_trans h.size h'.size, fun b hb hn =>
    (h'.2.2.2.2 b (Nat.lt_of_lt_of_le hb h.size) (fun hs => hn (h2 b hb hs))).trans (h.2.2.2.2 b hb (fun hs => hn (h1 b hs)))⟩
theorem Fr.tr {S : Nat → Prop} {w w' w'' : World} (h : Fr S w w') (h' : Fr S w' w'') : Fr S w w'' := h.trans h' (fun _ h => h) (fun _ _ h => h)
theorem Fr.more {S T : Nat → Prop} {w w' : World} (h : Fr S w w') (hS : ∀ b, S b → T b) : Fr T w w' := ⟨h.1, h.2.1, h.2.2.1, h.size, fun b hb hn => h.2.2.2.2 b hb (fun hs => hn (hS b hs))⟩
theorem Fr.below {S : Nat → Prop} {B : Nat} {w w' : World} (h : Fr S w w') (hS : ∀ b, S b → B ≤ b) (hB : B ≤ w.heap.size) : Below B w w' :=
  ⟨h.1, h.2.1, h.2.2.1, h.size, fun b hb => h.2.2.2.2 b (by omega) (fun hs => by have := hS b hs; omega)⟩
theorem Blk.fr {S : Nat → Prop} {w w' : World} {g : Nat} {t : TypeId} {cs : Array Value} (h : Blk w g t cs) (hf : Fr S w w') (hn : ¬ S g) : Blk w' g t cs := (hf.2.2.2.2 g h.lt hn).trans h
theorem Fr.set_ (S : Nat → Prop) (w : World) (p : Addr) (v : Value) (hS : S p.block) : Fr S w (w.setCell p v) :=
  ⟨rfl, rfl, rfl, by simp, fun b _ hn => Below.heap_setCell w p v b (fun e => hn (e ▸ hS))⟩
theorem Fr.drew {S : Nat → Prop} {w w' : World} (h : Fr S w w') : Fr S w w'.drew := h
theorem Fr.drewN {S : Nat → Prop} {w w' : World} (h : Fr S w w') (n : Nat) : Fr S w (w'.drewN n) := h
theorem Fr.st2 (S : Nat → Prop) (w : World) (g k : Nat) (e : En) (hS : S g) : Fr S w (st2 w g k e) := (Fr.set_ S w _ _ hS).tr (Fr.set_ S _ _ _ hS)

theorem cell_set_if {w : World} {p q : Addr} {v u : Value} (h : w.cell? q = some u) (he : p = q → v = u) : (w.setCell p v).cell? q = some u := by
  by_cases e : p = q
  · rw [← he e, e]; exact World.cell?_setCell_same' _ _ _ (by rw [h]; rfl)
  · exact (World.cell?_setCell_other _ _ _ _ e).trans h
set_option maxRecDepth 100000 in
set_option maxHeartbeats 4000000 in
theorem swap_any (q : List En) (g n c i j : Nat) (B : Nat) (w : World) (hq : OwnQ w B (.slice (some ⟨g, 0, none⟩) n c) q) (hn : q.length = n) (hi : i < n) (hj : j < n) :
    Calls Try.prog 99 #[.slice (some ⟨g, 0, none⟩) n c, .int .i64 i, .int .i64 j] w fun e w' => e = .returned (.tuple #[]) ∧ OwnQ w' B (.slice (some ⟨g, 0, none⟩) n c) (swp q i j) ∧ w'.heap.size = w.heap.size ∧ Fr (· = g) w w' := by
  have hF := hq.frozen hn
  have f1 := hF (i * 2); have f2 := hF (i * 2 + 1); have f3 := hF (j * 2); have f4 := hF (j * 2 + 1)
  clear hF
  obtain ⟨i1, i2⟩ := hq.cells hn hi
  obtain ⟨j1, j2⟩ := hq.cells hn hj
  have hS := (hq.store hn hi (gq q j)).store (by simpa using hn) hj (gq q i)
  obtain ⟨a, h1⟩ : ∃ x, gq q i = x := ⟨_, rfl⟩
  obtain ⟨b, h2⟩ : ∃ x, gq q j = x := ⟨_, rfl⟩
  have hS : Hid (OwnQ (st2 (st2 w g i b) g j a) B (.slice (some ⟨g, 0, none⟩) n c) (swp q i j)) := Lib.hid (by unfold swp; rw [← h1, ← h2]; exact hS)
  rw [h1] at i1 i2; rw [h2] at j1 j2
  obtain ⟨a1, a2⟩ := a
  obtain ⟨b1, b2⟩ := b
  have hlt := hq.lt.2
  have s1 : (w.setCell ⟨g, i * 2, none⟩ (.int .i64 b1)).cell? ⟨g, j * 2, none⟩ = some (.int .i64 b1) := cell_set_if j1 (fun _ => rfl)
  have s2 : ((w.setCell ⟨g, i * 2, none⟩ (.int .i64 b1)).setCell ⟨g, i * 2 + 1, none⟩ (.int .i64 b2)).cell? ⟨g, j * 2 + 1, none⟩ = some (.int .i64 b2) :=
    cell_set_if (cell_set_if j2 (fun e => by injection e with _ e _; omega)) (fun _ => rfl)
  clear h1 h2 hq hn
  go_enter Try.func99, Try.ntmps99
  go_wp2_with fail
  go_region
  all_goals
    go_wp2_with fail
    go_end0
    exact ⟨rfl, hS.out, by simp, ((Fr.st2 (· = g) w g i (b1, b2) rfl).tr (Fr.st2 (· = g) (st2 w g i (b1, b2)) g j (a1, a2) rfl)).drew⟩

end Go.Proofs.Yteiojobgjdfdpaa
