/- Walks: the law ClockBounds: the copy. -/
import Derived.Test.YtbojonafadhciaaCm
import Derived.Deep.Cut
import Derived.Deep.CutRange
import Derived.Deep.RegionHeld3
import Derived.Lib.QuietBelow
namespace Go.Proofs.Ytbojonafadhciaa
open Go.RowKit
open Go.Sort (grow)

theorem bl_alloc {a w : World} (h : Below a.heap.size a w) (o : Obj) : Below a.heap.size a (w.alloc o) := h.alloc h.size o
theorem bl_drew {a w : World} (h : Below a.heap.size a w) : Below a.heap.size a w.drew := h.drew
theorem bl_tr {a w w' : World} (h : Below a.heap.size a w) (h' : Below w.heap.size w w') : Below a.heap.size a w' := h.trans (h'.mono h.size)
theorem bl_set {a w : World} (h : Below a.heap.size a w) {p : Addr} (hp : a.heap.size ≤ p.block) (u : Value) : Below a.heap.size a (w.setCell p u) := h.setCell hp u
theorem Blk.new' {w : World} {g : Nat} (t : TypeId) (cs : Array Value) (h : g = w.heap.size) : Blk (w.alloc (.cells cs t)) g t cs := by subst h; exact Blk.new w t cs
theorem Blk.drew {w : World} {g : Nat} {t : TypeId} {cs : Array Value} (h : Blk w g t cs) : Blk w.drew g t cs := h
theorem BoxZ.of {w w' : World} {g : Nat} (h : Blk w g 24 #[.int .i64 0, .int .i64 0, .slice none 0 0, .slice none 0 0]) (hb : Below w.heap.size w w') :
    Blk w' g 24 #[.int .i64 0, .int .i64 0, .slice none 0 0, .slice none 0 0] ∧ w'.cell? ⟨g, 0, none⟩ = some (.int .i64 0) ∧ w'.cell? ⟨g, 1, none⟩ = some (.int .i64 0) ∧ w'.cell? ⟨g, 2, none⟩ = some (.slice none 0 0) ∧ w'.cell? ⟨g, 3, none⟩ = some (.slice none 0 0) ∧ w'.frozen? ⟨g, 0, none⟩ = false ∧ w'.frozen? ⟨g, 1, none⟩ = false ∧ w'.frozen? ⟨g, 2, none⟩ = false ∧ w'.frozen? ⟨g, 3, none⟩ = false ∧ g < w'.heap.size := by
  have k := h.below hb h.lt
  obtain ⟨h0, h1, h2, h3⟩ := box_cells k
  exact ⟨k, h0, h1, h2, h3, k.frozen 0, k.frozen 1, k.frozen 2, k.frozen 3, k.lt⟩
theorem Blk.set4 {w : World} {g : Nat} {t : TypeId} {a0 a1 a2 a3 : Value} (h : Blk w g t #[a0, a1, a2, a3]) (b0 b1 b2 b3 : Value) : Blk ((((w.setCell ⟨g, 0, none⟩ b0).setCell ⟨g, 1, none⟩ b1).setCell ⟨g, 2, none⟩ b2).setCell ⟨g, 3, none⟩ b3) g t #[b0, b1, b2, b3] := by
  have k := (((h.set_ 0 b0).set_ 1 b1).set_ 2 b2).set_ 3 b3
  simpa using k
theorem OwnI.not_blk {w : World} {N g : Nat} {v : Value} {l : List Int} {cur : Array Value} {t : TypeId} (ho : OwnI w N v l) (hb : Blk w g t cur) (ht : t ≠ 3) : v.ownBlock = none ∨ v.ownBlock ≠ some g := by
  rcases ho.2 with ⟨rfl, _⟩ | ⟨g', cap, cur', rfl, _, hg, _⟩
  · exact .inl rfl
  · refine .inr (fun e => ?_)
    simp [Value.ownBlock] at e
    subst e
    have h := hb
    unfold Blk at h
    rw [hg] at h
    injection h with h
    injection h with _ h
    exact ht h.symm
theorem grown_set4 (w : World) (g : Nat) (b0 b1 b2 b3 : Value) : w.grownBy ((((w.setCell ⟨g, 0, none⟩ b0).setCell ⟨g, 1, none⟩ b1).setCell ⟨g, 2, none⟩ b2).setCell ⟨g, 3, none⟩ b3) (some g) :=
  ⟨rfl, rfl, rfl, by simp, fun k hk hn => by
    have hne : k ≠ g := fun e => hn (by rw [e])
    rw [Below.heap_setCell _ _ _ k hne, Below.heap_setCell _ _ _ k hne, Below.heap_setCell _ _ _ k hne, Below.heap_setCell _ _ _ k hne]⟩
theorem OwnI.set4 {w : World} {N g : Nat} {v : Value} {l : List Int} {cur : Array Value} {t : TypeId} (ho : OwnI w N v l) (hb : Blk w g t cur) (ht : t ≠ 3) (b0 b1 b2 b3 : Value) : OwnI ((((w.setCell ⟨g, 0, none⟩ b0).setCell ⟨g, 1, none⟩ b1).setCell ⟨g, 2, none⟩ b2).setCell ⟨g, 3, none⟩ b3) N v l :=
  World.ownsRow.kept (row := some g) ho (grown_set4 w g b0 b1 b2 b3) (ho.not_blk hb ht)

def copyA (a : Arc) (k : Nat) : Arc := ⟨a.f, a.t, a.lo, a.hi.set k (a.lo.getD k 0)⟩
theorem getD_set {l : List Int} {k h : Nat} {x : Int} (hk : k < l.length) : (l.set k x).getD h 0 = if h = k then x else l.getD h 0 := by
  rw [List.getD_eq_getElem?_getD, List.getElem?_set]
  by_cases e : k = h
  · subst e
    simp [hk]
  · rw [if_neg e, if_neg (fun h => e h.symm), List.getD_eq_getElem?_getD]
theorem copy_ok {a : Arc} {k : Nat} (h : a.ok) (hk : k < 24) : (copyA a k).ok := by
  obtain ⟨h1, h2, h3, h4, h5⟩ := h
  refine ⟨h1, h2, h3, by show (a.hi.set k _).length = 24; rw [List.length_set]; exact h4, fun i hi => ?_⟩
  have h6 := h5 i hi
  have h7 := h5 k hk
  show 0 ≤ a.lo.getD i 0 ∧ a.lo.getD i 0 ≤ (a.hi.set k (a.lo.getD k 0)).getD i 0 ∧ (a.hi.set k (a.lo.getD k 0)).getD i 0 ≤ 600
  rw [getD_set (by omega)]
  by_cases e : i = k
  · subst e
    rw [if_pos rfl]
    omega
  · rw [if_neg e]
    exact h6
theorem copy_le {a : Arc} {k : Nat} (h : a.ok) (hk : k < 24) (u : Int) : (copyA a k).mm true u ≤ a.mm true u ∧ a.mm false u ≤ (copyA a k).mm true u := by
  obtain ⟨h1, h2, h3, h4, h5⟩ := h
  have h6 := h5 (hr u) (hr_lt u)
  show (a.hi.set k (a.lo.getD k 0)).getD (hr u) 0 ≤ a.hi.getD (hr u) 0 ∧ a.lo.getD (hr u) 0 ≤ (a.hi.set k (a.lo.getD k 0)).getD (hr u) 0
  rw [getD_set (by omega)]
  by_cases e : hr u = k
  · rw [if_pos e]
    subst e
    omega
  · rw [if_neg e]
    omega
theorem last_upto (a : Arc) (b : Bool) (y : Int) (n : Nat) : ∃ z : Int, -1 ≤ z ∧ z < n ∧ (0 ≤ z → z + a.mm b z ≤ y) ∧ ∀ v, z < v → 0 ≤ v → v < n → y < v + a.mm b v := by
  induction n with
  | zero => exact ⟨-1, by omega, by omega, fun h => by omega, fun v _ h0 h1 => by omega⟩
  | succ n ih =>
    obtain ⟨z, h1, h2, h3, h4⟩ := ih
    by_cases hy : (n : Int) + a.mm b n ≤ y
    · exact ⟨n, by omega, by omega, fun _ => hy, fun v k1 k2 k3 => by omega⟩
    · refine ⟨z, h1, by omega, h3, fun v k1 k2 k3 => ?_⟩
      by_cases e : v = (n : Int)
      · subst e
        omega
      · exact h4 v k1 k2 (by omega)
theorem last_ex (a : Arc) (b : Bool) (y : Int) : ∃ z, LastA a b y z := by
  obtain ⟨N, hN⟩ : ∃ N : Nat, (N : Int) = 1048577 := ⟨1048577, rfl⟩
  obtain ⟨z, h1, h2, h3, h4⟩ := last_upto a b y N
  exact ⟨z, h1, by omega, h3, fun v k1 k2 k3 => h4 v k1 k2 (by omega)⟩
theorem arr_ex {a : Arc} {b : Bool} {t : Int} (ho : a.ok) (ht : IsT t) : ∃ z, Arr a b t z := by
  have key : ∀ n : Nat, t + n ≤ 1048576 → ∃ z, Till a b t (t + n + 1) z := fun n => by
    induction n with
    | zero => exact fun _ => ⟨_, by simpa using Till.one (a := a) (b := b) ht⟩
    | succ n ih =>
      intro hn
      obtain ⟨z, hz⟩ := ih (by omega)
      have h9 := hz.minute (by omega) (by omega)
      rw [show t + (n : Int) + 1 + 1 = t + ((n + 1 : Nat) : Int) + 1 by omega] at h9
      exact ⟨_, h9⟩
  have h1 := ht.1
  have h2 := ht.2
  obtain ⟨N, hN⟩ : ∃ N : Nat, t + N = 1048576 := ⟨(1048576 - t).toNat, by omega⟩
  obtain ⟨z, hz⟩ := key N (by omega)
  exact ⟨z, hz.done ho (.inr (by omega))⟩
theorem last_spec {a : Arc} (b : Bool) (y : Int) (h : a.ok) : LastA a b y (a.last b y) := by
  obtain ⟨z, hz⟩ := last_ex a b y
  have h1 : LastP a b y z := .inl ⟨h, hz⟩
  rw [← h1.is]
  exact hz
theorem pass_spec {a : Arc} (b : Bool) {t : Int} (h : a.ok) (ht : IsT t) : Arr a b t (a.pass b t) := by
  obtain ⟨z, hz⟩ := arr_ex (b := b) h ht
  have h1 : PassP a b t z := .inl ⟨h, ht, hz⟩
  rw [← h1.is]
  exact hz
theorem last_ex_any (a : Arc) (A A' : Option Addr) (c c' : Nat) (b : Bool) (y : Int) (w : World) (hM : ArcM w a A A') (h : a.ok) (hy9 : y ≤ 9223372036854775807) :
    Calls Try.prog 16 #[.agg #[.int .i64 a.f, .int .i64 a.t, .slice A 24 c, .slice A' 24 c'], .int .i64 y, .bool b] w fun e w' => e = .returned (.int .i64 (a.last b y)) ∧ Below w.heap.size w w' :=
  (last_ok a A A' c c' b y w hM h hy9).mono (by rintro e w' ⟨z, rfl, hz, hb⟩; rw [(show LastP a b y z from .inl ⟨h, hz.out⟩).is]; exact ⟨rfl, hb⟩)
theorem pass_ex_any (a : Arc) (A A' : Option Addr) (c c' : Nat) (b : Bool) (t : Int) (w : World) (hM : ArcM w a A A') (h : a.ok) (ht : IsT t) :
    Calls Try.prog 14 #[.agg #[.int .i64 a.f, .int .i64 a.t, .slice A 24 c, .slice A' 24 c'], .int .i64 t, .bool b] w fun e w' => e = .returned (.int .i64 (a.pass b t)) ∧ Below w.heap.size w w' :=
  (pass_yes a A A' c c' b t w hM h ht).mono (by rintro e w' ⟨z, rfl, hz, hb⟩; rw [(show PassP a b t z from .inl ⟨h, ht, hz.out⟩).is]; exact ⟨rfl, hb⟩)

/-- Both arcs as they lie. -/
structure Two (w V : World) (G G10 : Nat) (a : Arc) (k : Nat) (A : Option Addr) (c : Nat) (A' : Option Addr) (c' : Nat) (g1 d1 g2 d2 : Nat) : Prop where
  ofA : Lie w V G a A c A' c'
  ofB : Lie w V G10 (copyA a k) (some ⟨g1, 0, none⟩) d1 (some ⟨g2, 0, none⟩) d2
theorem IntsAt.far {w : World} {B : Nat} {A : Option Addr} {l : List Int} (h : IntsAt B w A l) {p : Addr} (hp : B ≤ p.block) (u : Value) : IntsAt B (w.setCell p u) A l := fun k hk => by
  obtain ⟨b, off, e, hB, hc⟩ := h k hk
  refine ⟨b, off, e, hB, ?_⟩
  have hne : b ≠ p.block := by omega
  rw [← hc]
  unfold World.cell?
  rw [Below.heap_setCell w p u b hne]
theorem Two.mk' {w w3 wc : World} {G G10 g1 d1 g2 d2 c c' k : Nat} {a : Arc} {A A' : Option Addr} (hL : Lie w w3 G a A c A' c') (ho : a.ok) (hb : Below w3.heap.size w3 wc)
    (hB : Blk wc G10 24 #[.int .i64 a.f, .int .i64 a.t, .slice (some ⟨g1, 0, none⟩) 24 d1, .slice (some ⟨g2, 0, none⟩) 24 d2]) (h1 : OwnI wc w3.heap.size (.slice (some ⟨g1, 0, none⟩) 24 d1) a.lo) (h2 : OwnI wc w3.heap.size (.slice (some ⟨g2, 0, none⟩) 24 d2) a.hi) (hn : g1 ≠ g2) :
    Two w (wc.setCell ⟨g2, k, none⟩ (.int .i64 (a.lo.getD k 0))) G G10 a k A c A' c' g1 d1 g2 d2 := by
  have hg2 := h2.lt
  have hs := hL.bl.size
  have hV : Below w3.heap.size w3 (wc.setCell ⟨g2, k, none⟩ (.int .i64 (a.lo.getD k 0))) := hb.setCell hg2.1 _
  refine ⟨hL.below hV, ?_, ?_, hL.bl.trans (hV.mono hs)⟩
  · have e1 : OwnI (wc.setCell ⟨g2, k, none⟩ (.int .i64 (a.lo.getD k 0))) w3.heap.size (.slice (some ⟨g1, 0, none⟩) 24 d1) a.lo :=
      World.ownsRow.kept (row := some g2) h1 ⟨rfl, rfl, rfl, by simp, fun k hk hn => Below.heap_setCell wc _ _ k (fun e => hn (by rw [e]))⟩ (.inr (fun e => hn (by injection e)))
    have e2 := h2.store ho.2.2.2.1 k (a.lo.getD k 0)
    obtain ⟨x1, y1, q1, i1⟩ := e1.ints
    obtain ⟨x2, y2, q2, i2⟩ := e2.ints
    injection q1 with q1 _ _
    injection q2 with q2 _ _
    subst q1; subst q2
    exact ⟨i1, i2⟩
  · refine hB.far (fun e => ?_) _
    have := h2.not_blk hB (by decide)
    rcases this with h | h
    · simp [Value.ownBlock] at h
    · exact h (by rw [e]; rfl)
theorem Two.below {w V V' : World} {G G10 g1 d1 g2 d2 c c' k : Nat} {a : Arc} {A A' : Option Addr} (h : Two w V G G10 a k A c A' c' g1 d1 g2 d2) (hb : Below V.heap.size V V') : Two w V' G G10 a k A c A' c' g1 d1 g2 d2 := ⟨h.ofA.below hb, h.ofB.below hb⟩

/-- The copy of an arc, in its variable. -/
structure Cpy (w wx : World) (p : Value) (f t : Int) (lo hi : List Int) : Prop where
  ex : ∃ (G10 g1 c1 g2 c2 : Nat), p = .pointer (some ⟨G10, 0, none⟩) ∧ Blk wx G10 24 #[.int .i64 f, .int .i64 t, .slice (some ⟨g1, 0, none⟩) 24 c1, .slice (some ⟨g2, 0, none⟩) 24 c2] ∧ OwnI wx w.heap.size (.slice (some ⟨g1, 0, none⟩) 24 c1) lo ∧ OwnI wx w.heap.size (.slice (some ⟨g2, 0, none⟩) 24 c2) hi ∧ g1 ≠ g2 ∧ w.heap.size ≤ G10
  bl : Below w.heap.size w wx
theorem Cpy.mkA {w v : World} {g1 c1 g2 c2 : Nat} {f t : Int} {lo hi : List Int} (h1 : OwnI v w.heap.size (.slice (some ⟨g1, 0, none⟩) 24 c1) lo) (h2 : OwnI v w.heap.size (.slice (some ⟨g2, 0, none⟩) 24 c2) hi) (hn : g1 ≠ g2) (hb : Below w.heap.size w v) :
    Cpy w (v.alloc (.cells #[.int .i64 f, .int .i64 t, .slice (some ⟨g1, 0, none⟩) 24 c1, .slice (some ⟨g2, 0, none⟩) 24 c2] 24)) (.pointer (some ⟨v.heap.size, 0, none⟩)) f t lo hi :=
  ⟨⟨_, g1, c1, g2, c2, rfl, Blk.new _ _ _, h1.below ((Below.refl _ _).alloc (Nat.le_refl _) _), h2.below ((Below.refl _ _).alloc (Nat.le_refl _) _), hn, hb.size⟩, bl_alloc hb _⟩
theorem Cpy.mkB {w v : World} {g g1 c1 g2 c2 : Nat} {f t : Int} {lo hi : List Int} (h1 : OwnI v w.heap.size (.slice (some ⟨g1, 0, none⟩) 24 c1) lo) (h2 : OwnI v w.heap.size (.slice (some ⟨g2, 0, none⟩) 24 c2) hi) (hn : g1 ≠ g2) (hb : Below w.heap.size w v)
    (hk : Blk v g 24 #[.int .i64 0, .int .i64 0, .slice none 0 0, .slice none 0 0]) (hg : w.heap.size ≤ g) :
    Cpy w ((((v.setCell ⟨g, 0, none⟩ (.int .i64 f)).setCell ⟨g, 1, none⟩ (.int .i64 t)).setCell ⟨g, 2, none⟩ (.slice (some ⟨g1, 0, none⟩) 24 c1)).setCell ⟨g, 3, none⟩ (.slice (some ⟨g2, 0, none⟩) 24 c2)) (.pointer (some ⟨g, 0, none⟩)) f t lo hi :=
  ⟨⟨g, g1, c1, g2, c2, rfl, hk.set4 _ _ _ _, h1.set4 hk (by decide) _ _ _ _, h2.set4 hk (by decide) _ _ _ _, hn, hg⟩, (((hb.setCell hg _).setCell hg _).setCell hg _).setCell hg _⟩

set_option maxRecDepth 100000 in
set_option maxHeartbeats 8000000 in
theorem bounds_law_few (f0 t0 : Int) (A A' : Option Addr) (c c' n m : Nat) (q : Nat) (t y : Int) (w : World) (h : ¬ (n ≤ 40 ∧ m ≤ 40)) :
    Calls Try.prog 6 #[.agg #[.int .i64 f0, .int .i64 t0, .slice A n c, .slice A' m c'], .int .u8 q, .int .i64 t, .int .i64 y] w fun e w' => e = .returned (.bool true) ∧ Below w.heap.size w w' := by
  have hA0 : Below w.heap.size w (w.alloc (.cells #[.int .i64 f0, .int .i64 t0, .slice A n c, .slice A' m c'] 24)) := (Below.refl _ _).alloc (Nat.le_refl _) _
  have hK := Blk.new w 24 #[.int .i64 f0, .int .i64 t0, .slice A n c, .slice A' m c']
  have HF := Lib.hid (fun w => few_any f0 t0 A A' n m c c' w false (decide_eq_false h).symm); clear h
  go_enter Try.func6, Try.ntmps6
  go_wp2_with fail
  refine (small_any _).mono ?_
  rintro e w1 ⟨rfl, hb1⟩
  obtain ⟨k0, k1, k2, k3⟩ := box_cells (hK.below hb1 (by simp))
  have hB1 := hA0.trans (hb1.mono hA0.size)
  go_wp2_with fail
  refine (HF.out _).mono ?_
  rintro e w2 ⟨rfl, hb2⟩
  go_wp2_with fail
  go_ret
  exact ⟨by rfl, hB1.trans (hb2.mono hB1.size)⟩

set_option maxRecDepth 100000 in
set_option maxHeartbeats 8000000 in
theorem bounds_law_bad (a : Arc) (A A' : Option Addr) (c c' n m : Nat) (q : Nat) (t y : Int) (w : World) (hM : ArcM w a A A') (h : n ≤ 40 ∧ m ≤ 40) (ho : ¬ a.ok) (hn : a.lo.length = n) (hm : a.hi.length = m) :
    Calls Try.prog 6 #[.agg #[.int .i64 a.f, .int .i64 a.t, .slice A n c, .slice A' m c'], .int .u8 q, .int .i64 t, .int .i64 y] w fun e w' => e = .returned (.bool true) ∧ Below w.heap.size w w' := by
  have hA0 : Below w.heap.size w (w.alloc (.cells #[.int .i64 a.f, .int .i64 a.t, .slice A n c, .slice A' m c'] 24)) := (Below.refl _ _).alloc (Nat.le_refl _) _
  have HK := Lib.hid (Blk.new w 24 #[.int .i64 a.f, .int .i64 a.t, .slice A n c, .slice A' m c'])
  have HF := Lib.hid (fun w => few_any a.f a.t A A' n m c c' w true (decide_eq_true h).symm); clear h
  have HR := Lib.hid (fun w' (hb : Below w.heap.size w w') => right_no a A A' c c' n m w' (hM.below hb) ho hn hm); clear hM ho hn hm
  go_enter Try.func6, Try.ntmps6
  go_wp2_with fail
  refine (small_any _).mono ?_
  rintro e w1 ⟨rfl, hb1⟩
  have hK1 := HK.out.below hb1 (by simp)
  obtain ⟨k0, k1, k2, k3⟩ := box_cells hK1
  have hB1 := hA0.trans (hb1.mono hA0.size)
  go_wp2_with fail
  refine (HF.out _).mono ?_
  rintro e w2 ⟨rfl, hb2⟩
  have hB2 := hB1.trans (hb2.mono hB1.size)
  have hK2 := hK1.below hb2 hK1.lt
  clear k0 k1 k2 k3
  obtain ⟨k0, k1, k2, k3⟩ := box_cells hK2
  go_wp2_with fail
  refine (HR.out _ hB2).mono ?_
  rintro e w3 ⟨rfl, hb3⟩
  go_wp2_with fail
  go_ret
  exact ⟨by rfl, hB2.trans (hb3.mono hB2.size)⟩

set_option maxRecDepth 100000 in
set_option maxHeartbeats 8000000 in
theorem bounds_law_ok (a : Arc) (A A' : Option Addr) (c c' : Nat) (q : Nat) (t y : Int) (w : World) (hM : ArcM w a A A') (ho : a.ok) (hq : q < 256) (hy9 : y ≤ 9223372036854775807) :
    Calls Try.prog 6 #[.agg #[.int .i64 a.f, .int .i64 a.t, .slice A 24 c, .slice A' 24 c'], .int .u8 q, .int .i64 t, .int .i64 y] w fun e w' => e = .returned (.bool true) ∧ Below w.heap.size w w' := by
  have hA0 : Below w.heap.size w (w.alloc (.cells #[.int .i64 a.f, .int .i64 a.t, .slice A 24 c, .slice A' 24 c'] 24)) := (Below.refl _ _).alloc (Nat.le_refl _) _
  have HL := Lib.hid (show Lie w (w.alloc (.cells #[.int .i64 a.f, .int .i64 a.t, .slice A 24 c, .slice A' 24 c'] 24)) w.heap.size a A c A' c' from ⟨hM.below hA0, Blk.new w 24 #[.int .i64 a.f, .int .i64 a.t, .slice A 24 c, .slice A' 24 c'], hA0⟩)
  clear hA0 hM
  have HO := Lib.hid ho; clear ho
  go_enter Try.func6, Try.ntmps6
  go_wp2_with fail
  obtain ⟨G, hG⟩ : ∃ G, w.heap.size = G := ⟨_, rfl⟩
  rw [hG] at HL ⊢
  have HG := Lib.hid hG; clear hG
  refine (small_any _).mono ?_
  rintro e w1 ⟨rfl, hb1⟩
  have HL1 := Lib.hid (HL.out.below hb1)
  clear HL hb1
  obtain ⟨k0, k1, k2, k3⟩ := box_cells HL1.out.k
  go_wp2_with fail
  refine (few_any a.f a.t A A' 24 24 c c' _ true (by decide)).mono ?_
  rintro e w2 ⟨rfl, hb2⟩
  have HL2 := Lib.hid (HL1.out.below hb2)
  clear HL1 hb2 k0 k1 k2 k3
  obtain ⟨k0, k1, k2, k3⟩ := box_cells HL2.out.k
  go_wp2_with fail
  refine (right_yes a A A' c c' _ HL2.out.m HO.out).mono ?_
  rintro e w3 ⟨rfl, hb3⟩
  have HL3 := Lib.hid (HL2.out.below hb3)
  clear HL2 hb3 k0 k1 k2 k3
  obtain ⟨k0, k1, k2, k3⟩ := box_cells HL3.out.k
  go_upto_region 4 with fail
  have hlo := HO.out.2.2.1
  have hhi := HO.out.2.2.2.1
  obtain ⟨b1, o1, hA, -, -⟩ := HL3.out.m.lo.get (k := 0) (by omega)
  obtain ⟨b2, o2, hA', -, -⟩ := HL3.out.m.hi.get (k := 0) (by omega)
  subst hA; subst hA'
  have HLO : Hid (a.lo.length = 24 ∧ ∀ W', Below w3.heap.size w3 W' → IntsAt W'.heap.size W' (some ⟨b1, o1, none⟩) a.lo) := Lib.hid ⟨hlo, fun W' hW => (HL3.out.m.below hW).lo⟩
  have HHI : Hid (a.hi.length = 24 ∧ ∀ W', Below w3.heap.size w3 W' → IntsAt W'.heap.size W' (some ⟨b2, o2, none⟩) a.hi) := Lib.hid ⟨hhi, fun W' hW => (HL3.out.m.below hW).hi⟩
  have HLA := Lib.hid HL3.out.k
  clear hlo hhi
  have E0 := Lib.hid (fun (W' : World) (hW : Below w3.heap.size w3 W') => box_cells (HLA.out.below hW HLA.out.lt))
  go_cut [10] from 22 to 34 (fun p wx => Cpy w3 wx p a.f a.t a.lo a.hi)
  case first =>
    go_region_held3 (fun W' => W'.cell? ⟨G, 0, none⟩ = some (.int .i64 a.f) ∧ W'.cell? ⟨G, 1, none⟩ = some (.int .i64 a.t) ∧ W'.cell? ⟨G, 2, none⟩ = some (.slice (some ⟨b1, o1, none⟩) 24 c) ∧ W'.cell? ⟨G, 3, none⟩ = some (.slice (some ⟨b2, o2, none⟩) 24 c'))
      (first | exact E0.out _ (Below.refl _ _).drew | (refine E0.out _ ?_; (repeat (first | with_reducible exact Below.refl _ _ | with_reducible apply bl_alloc | with_reducible apply bl_drew | with_reducible refine bl_set ?_ ?_ _ | with_reducible refine bl_tr ?_ (by assumption) | omega | (dsimp only; omega))); done))
      (first
        | (refine step_app0 rfl (.tmp 26) (.tmp 28) rfl _ a.lo ⟨b1, o1, none⟩ c (by exact rfl) (by simp [Act.eval]) HLO.out.1 (HLO.out.2 _ ?hch) ?_; (case hch => (repeat (first | with_reducible exact Below.refl _ _ | with_reducible apply bl_alloc | with_reducible apply bl_drew | with_reducible refine bl_set ?_ ?_ _ | with_reducible refine bl_tr ?_ (by assumption) | omega | (dsimp only; omega)))); intro c1' v1 hown1 hb1; have hch1 : Below w3.heap.size w3 v1 := (by repeat (first | with_reducible exact Below.refl _ _ | with_reducible apply bl_alloc | with_reducible apply bl_drew | with_reducible refine bl_set ?_ ?_ _ | with_reducible refine bl_tr ?_ (by assumption) | omega | (dsimp only; omega))); have hcs1 := hch1.size; have ho1 := hown1.lt; (try simp only [World.size_alloc, World.size_drew] at hown1 ho1); (try (refine (fun hbz => ?_) (BoxZ.of (g := w3.heap.size) ?bx hb1); (case bx => ((repeat (first | with_reducible assumption | (with_reducible refine Blk.new' _ _ ?_; (simp only [World.size_alloc]; done)) | with_reducible apply Blk.alloc | with_reducible apply Blk.drew)); done)); obtain ⟨hbx, z0, z1, z2, z3, y0, y1, y2, y3, yl⟩ := hbz)); (try (refine (fun hbz => ?_) (BoxZ.of (g := w3.heap.size + 1) ?bx hb1); (case bx => ((repeat (first | with_reducible assumption | (with_reducible refine Blk.new' _ _ ?_; (simp only [World.size_alloc]; done)) | with_reducible apply Blk.alloc | with_reducible apply Blk.drew)); done)); obtain ⟨hbx, z0, z1, z2, z3, y0, y1, y2, y3, yl⟩ := hbz)); (try (refine (fun hbz => ?_) (BoxZ.of (g := w3.heap.size + 2) ?bx hb1); (case bx => ((repeat (first | with_reducible assumption | (with_reducible refine Blk.new' _ _ ?_; (simp only [World.size_alloc]; done)) | with_reducible apply Blk.alloc | with_reducible apply Blk.drew)); done)); obtain ⟨hbx, z0, z1, z2, z3, y0, y1, y2, y3, yl⟩ := hbz)); (try (refine (fun hbz => ?_) (BoxZ.of (g := v2.heap.size) ?bx hb1); (case bx => ((repeat (first | with_reducible assumption | (with_reducible refine Blk.new' _ _ ?_; (simp only [World.size_alloc]; done)) | with_reducible apply Blk.alloc | with_reducible apply Blk.drew)); done)); obtain ⟨hbx, z0, z1, z2, z3, y0, y1, y2, y3, yl⟩ := hbz)); (try (refine (fun hbz => ?_) (BoxZ.of (g := v2.heap.size + 1) ?bx hb1); (case bx => ((repeat (first | with_reducible assumption | (with_reducible refine Blk.new' _ _ ?_; (simp only [World.size_alloc]; done)) | with_reducible apply Blk.alloc | with_reducible apply Blk.drew)); done)); obtain ⟨hbx, z0, z1, z2, z3, y0, y1, y2, y3, yl⟩ := hbz)); (try (refine (fun hbz => ?_) (BoxZ.of (g := v2.heap.size + 2) ?bx hb1); (case bx => ((repeat (first | with_reducible assumption | (with_reducible refine Blk.new' _ _ ?_; (simp only [World.size_alloc]; done)) | with_reducible apply Blk.alloc | with_reducible apply Blk.drew)); done)); obtain ⟨hbx, z0, z1, z2, z3, y0, y1, y2, y3, yl⟩ := hbz)))
        | (refine step_app0 rfl (.tmp 30) (.tmp 32) rfl _ a.hi ⟨b2, o2, none⟩ c' (by exact rfl) (by simp [Act.eval]) HHI.out.1 (HHI.out.2 _ ?hch) ?_; (case hch => (repeat (first | with_reducible exact Below.refl _ _ | with_reducible apply bl_alloc | with_reducible apply bl_drew | with_reducible refine bl_set ?_ ?_ _ | with_reducible refine bl_tr ?_ (by assumption) | omega | (dsimp only; omega)))); intro c2' v2 hown2 hb2; have hch2 : Below w3.heap.size w3 v2 := (by repeat (first | with_reducible exact Below.refl _ _ | with_reducible apply bl_alloc | with_reducible apply bl_drew | with_reducible refine bl_set ?_ ?_ _ | with_reducible refine bl_tr ?_ (by assumption) | omega | (dsimp only; omega))); have hcs2 := hch2.size; have ho2 := hown2.lt; (try simp only [World.size_alloc] at hown2 ho2); (try (refine (fun hbz => ?_) (BoxZ.of (g := w3.heap.size) ?bx hb2); (case bx => ((repeat (first | with_reducible assumption | (with_reducible refine Blk.new' _ _ ?_; (simp only [World.size_alloc]; done)) | with_reducible apply Blk.alloc | with_reducible apply Blk.drew)); done)); obtain ⟨hbx, z0, z1, z2, z3, y0, y1, y2, y3, yl⟩ := hbz)); (try (refine (fun hbz => ?_) (BoxZ.of (g := w3.heap.size + 1) ?bx hb2); (case bx => ((repeat (first | with_reducible assumption | (with_reducible refine Blk.new' _ _ ?_; (simp only [World.size_alloc]; done)) | with_reducible apply Blk.alloc | with_reducible apply Blk.drew)); done)); obtain ⟨hbx, z0, z1, z2, z3, y0, y1, y2, y3, yl⟩ := hbz)); (try (refine (fun hbz => ?_) (BoxZ.of (g := w3.heap.size + 2) ?bx hb2); (case bx => ((repeat (first | with_reducible assumption | (with_reducible refine Blk.new' _ _ ?_; (simp only [World.size_alloc]; done)) | with_reducible apply Blk.alloc | with_reducible apply Blk.drew)); done)); obtain ⟨hbx, z0, z1, z2, z3, y0, y1, y2, y3, yl⟩ := hbz)); (try (refine (fun hbz => ?_) (BoxZ.of (g := v1.heap.size) ?bx hb2); (case bx => ((repeat (first | with_reducible assumption | (with_reducible refine Blk.new' _ _ ?_; (simp only [World.size_alloc]; done)) | with_reducible apply Blk.alloc | with_reducible apply Blk.drew)); done)); obtain ⟨hbx, z0, z1, z2, z3, y0, y1, y2, y3, yl⟩ := hbz)); (try (refine (fun hbz => ?_) (BoxZ.of (g := v1.heap.size + 1) ?bx hb2); (case bx => ((repeat (first | with_reducible assumption | (with_reducible refine Blk.new' _ _ ?_; (simp only [World.size_alloc]; done)) | with_reducible apply Blk.alloc | with_reducible apply Blk.drew)); done)); obtain ⟨hbx, z0, z1, z2, z3, y0, y1, y2, y3, yl⟩ := hbz)); (try (refine (fun hbz => ?_) (BoxZ.of (g := v1.heap.size + 2) ?bx hb2); (case bx => ((repeat (first | with_reducible assumption | (with_reducible refine Blk.new' _ _ ?_; (simp only [World.size_alloc]; done)) | with_reducible apply Blk.alloc | with_reducible apply Blk.drew)); done)); obtain ⟨hbx, z0, z1, z2, z3, y0, y1, y2, y3, yl⟩ := hbz))))
    all_goals
      go_wp2_with fail
      go_meet
      first
        | refine Cpy.mkA ?o1 ?o2 ?ne ?bl
          case o1 => (first | exact hown1.mono (by omega) | exact (hown1.below (bl_tr (by repeat (first | with_reducible exact Below.refl _ _ | with_reducible apply bl_alloc | with_reducible apply bl_drew | with_reducible refine bl_set ?_ ?_ _ | with_reducible refine bl_tr ?_ (by assumption) | omega | (dsimp only; omega))) hb2)).mono (by omega))
          case o2 => (first | exact hown2.mono (by omega) | exact (hown2.below (bl_tr (by repeat (first | with_reducible exact Below.refl _ _ | with_reducible apply bl_alloc | with_reducible apply bl_drew | with_reducible refine bl_set ?_ ?_ _ | with_reducible refine bl_tr ?_ (by assumption) | omega | (dsimp only; omega))) hb1)).mono (by omega))
          case ne => omega
          case bl => assumption
        | refine Cpy.mkB ?o1 ?o2 ?ne ?bl ?bx ?hg
          case o1 => (first | exact hown1.mono (by omega) | exact (hown1.below (bl_tr (by repeat (first | with_reducible exact Below.refl _ _ | with_reducible apply bl_alloc | with_reducible apply bl_drew | with_reducible refine bl_set ?_ ?_ _ | with_reducible refine bl_tr ?_ (by assumption) | omega | (dsimp only; omega))) hb2)).mono (by omega))
          case o2 => (first | exact hown2.mono (by omega) | exact (hown2.below (bl_tr (by repeat (first | with_reducible exact Below.refl _ _ | with_reducible apply bl_alloc | with_reducible apply bl_drew | with_reducible refine bl_set ?_ ?_ _ | with_reducible refine bl_tr ?_ (by assumption) | omega | (dsimp only; omega))) hb1)).mono (by omega))
          case ne => omega
          case bl => assumption
          case bx => assumption
          case hg => omega

  obtain ⟨⟨G10, g1, d1, g2, d2, rfl, kB, hB1, hB2, hg12, hG10⟩, hbC⟩ := hcut
  clear E0 HLO HHI k0 k1 k2 k3
  obtain ⟨K, hK⟩ : ∃ K, q % 24 = K := ⟨_, rfl⟩
  have hK24 : K < 24 := by omega
  have hKq : (q : Int) % 24 = (K : Int) := by omega
  have hKi : ((K : Nat) : Int) < 24 := by omega
  clear hK
  have HT2 := Lib.hid (Two.mk' (k := K) HL3.out HO.out hbC kB hB1 hB2 hg12)
  obtain ⟨k0, k1, k2, k3⟩ := box_cells (HL3.out.below hbC).k
  obtain ⟨n0, n1, n2, n3⟩ := box_cells kB
  obtain ⟨b1', o1', hA, -, cl⟩ := (HL3.out.below hbC).m.lo.get (k := K) (by rw [HO.out.2.2.1]; exact hK24)
  injection hA with hA
  injection hA with hA1 hA2
  subst hA1; subst hA2
  have cg := hB2.cell (k := K) HO.out.2.2.2.1 hK24
  have fg := hB2.frozen (k := K) HO.out.2.2.2.1
  have hg2l := hB2.lt.2
  obtain ⟨x, hx⟩ : ∃ x, a.lo.getD K 0 = x := ⟨_, rfl⟩
  rw [hx] at cl HT2
  clear hx hbC kB hB1 hB2 hg12 hG10
  go_upto_region 6 with fail
  go_region
  all_goals
    clear k0 k1 k2 k3 n0 n1 n2 n3 cl cg fg hg2l
    have HT3 := Lib.hid (HT2.out.below ((Below.refl _ _).drew))
    clear HT2
    obtain ⟨V, hV⟩ : ∃ V, (wc.setCell ⟨g2, K, none⟩ (.int .i64 x)).drew = V := ⟨_, rfl⟩
    rw [hV] at HT3 ⊢
    clear hV HLA HL3
    have HOB := Lib.hid (copy_ok HO.out hK24)
    have HLE := Lib.hid (copy_le HO.out hK24)
    obtain ⟨z1, hz1⟩ : ∃ z, z = a.last true y := ⟨_, rfl⟩
    obtain ⟨z2, hz2⟩ : ∃ z, z = a.last false y := ⟨_, rfl⟩
    obtain ⟨z3, hz3⟩ : ∃ z, z = (copyA a K).last true y := ⟨_, rfl⟩
    have Q1 : Hid (∀ x os, Calls Try.prog 16 #[.agg #[.int .i64 a.f, .int .i64 a.t, .slice (some ⟨b1, o1, none⟩) 24 c, .slice (some ⟨b2, o2, none⟩) 24 c'], .int .i64 y, .bool true] (grow (redrawn V x) os) fun e w'' => e = .returned (.int .i64 z1) ∧ ∃ p : Regrown, w'' = grow (redrawn V p.d) p.os) := Lib.hid (fun x os => Calls.regrown_of (by rw [hz1]; exact last_ex_any a _ _ c c' true y _ (HT3.out.ofA.m.below (below_regrown V x os)) HO.out hy9))
    have Q2 : Hid (∀ x os, Calls Try.prog 16 #[.agg #[.int .i64 a.f, .int .i64 a.t, .slice (some ⟨b1, o1, none⟩) 24 c, .slice (some ⟨b2, o2, none⟩) 24 c'], .int .i64 y, .bool false] (grow (redrawn V x) os) fun e w'' => e = .returned (.int .i64 z2) ∧ ∃ p : Regrown, w'' = grow (redrawn V p.d) p.os) := Lib.hid (fun x os => Calls.regrown_of (by rw [hz2]; exact last_ex_any a _ _ c c' false y _ (HT3.out.ofA.m.below (below_regrown V x os)) HO.out hy9))
    have Q3 : Hid (∀ x os, Calls Try.prog 16 #[.agg #[.int .i64 a.f, .int .i64 a.t, .slice (some ⟨g1, 0, none⟩) 24 d1, .slice (some ⟨g2, 0, none⟩) 24 d2], .int .i64 y, .bool true] (grow (redrawn V x) os) fun e w'' => e = .returned (.int .i64 z3) ∧ ∃ p : Regrown, w'' = grow (redrawn V p.d) p.os) := Lib.hid (fun x os => Calls.regrown_of (by rw [hz3]; exact last_ex_any (copyA a K) _ _ d1 d2 true y _ (HT3.out.ofB.m.below (below_regrown V x os)) HOB.out hy9))
    have h12 : z1 ≤ z2 := by
      rw [hz1, hz2]
      exact (last_spec false y HO.out).less (last_spec true y HO.out) (fun u => HO.out.low u)
    have h13 : z1 ≤ z3 := by
      rw [hz1, hz3]
      exact (last_spec true y HOB.out).less (last_spec true y HO.out) (fun u => (HLE.out u).1)
    clear hz1 hz2 hz3
    have i12 : decide (z2 < z1) = false := decide_eq_false (by omega)
    have i13 : decide (z3 < z1) = false := decide_eq_false (by omega)
    obtain ⟨k0, k1, k2, k3⟩ := box_cells HT3.out.ofA.k
    obtain ⟨n0, n1, n2, n3⟩ := box_cells HT3.out.ofB.k
    simp only [copyA] at n0 n1
    have e0 := cell_regrown k0
    have e1 := cell_regrown k1
    have e2 := cell_regrown k2
    have e3 := cell_regrown k3
    have f0 := cell_regrown n0
    have f1 := cell_regrown n1
    have f2 := cell_regrown n2
    have f3 := cell_regrown n3
    go_wp2_with fail
    refine wp_region_quiet_below (by kernel_rfl) (by kernel_rfl) ?_
    repeat (quiet_step (first | (go_at_call 16; with_reducible exact Q1.out _ _) | (go_at_call 16; with_reducible exact Q2.out _ _) | (go_at_call 16; with_reducible exact Q3.out _ _)))
    refine wpQuiet_nil ?_
    intro U hU
    have HT4 := Lib.hid (HT3.out.below (show Below V.heap.size V U by obtain ⟨p, rfl⟩ := hU; exact below_regrown V p.d p.os))
    clear hU e0 e1 e2 e3 f0 f1 f2 f3 k0 k1 k2 k3 n0 n1 n2 n3 Q1 Q2 Q3 HT3
    by_cases ht : IsT t
    · have HT := Lib.hid ht
      obtain ⟨ht0, ht1⟩ := ht
      clear i12 i13 h12 h13
      obtain ⟨p1, hp1⟩ : ∃ z, z = a.pass true t := ⟨_, rfl⟩
      obtain ⟨p2, hp2⟩ : ∃ z, z = a.pass false t := ⟨_, rfl⟩
      obtain ⟨p3, hp3⟩ : ∃ z, z = (copyA a K).pass true t := ⟨_, rfl⟩
      have Q1 : Hid (∀ x os, Calls Try.prog 14 #[.agg #[.int .i64 a.f, .int .i64 a.t, .slice (some ⟨b1, o1, none⟩) 24 c, .slice (some ⟨b2, o2, none⟩) 24 c'], .int .i64 t, .bool true] (grow (redrawn U x) os) fun e w'' => e = .returned (.int .i64 p1) ∧ ∃ p : Regrown, w'' = grow (redrawn U p.d) p.os) := Lib.hid (fun x os => Calls.regrown_of (by rw [hp1]; exact pass_ex_any a _ _ c c' true t _ (HT4.out.ofA.m.below (below_regrown U x os)) HO.out HT.out))
      have Q2 : Hid (∀ x os, Calls Try.prog 14 #[.agg #[.int .i64 a.f, .int .i64 a.t, .slice (some ⟨b1, o1, none⟩) 24 c, .slice (some ⟨b2, o2, none⟩) 24 c'], .int .i64 t, .bool false] (grow (redrawn U x) os) fun e w'' => e = .returned (.int .i64 p2) ∧ ∃ p : Regrown, w'' = grow (redrawn U p.d) p.os) := Lib.hid (fun x os => Calls.regrown_of (by rw [hp2]; exact pass_ex_any a _ _ c c' false t _ (HT4.out.ofA.m.below (below_regrown U x os)) HO.out HT.out))
      have Q3 : Hid (∀ x os, Calls Try.prog 14 #[.agg #[.int .i64 a.f, .int .i64 a.t, .slice (some ⟨g1, 0, none⟩) 24 d1, .slice (some ⟨g2, 0, none⟩) 24 d2], .int .i64 t, .bool true] (grow (redrawn U x) os) fun e w'' => e = .returned (.int .i64 p3) ∧ ∃ p : Regrown, w'' = grow (redrawn U p.d) p.os) := Lib.hid (fun x os => Calls.regrown_of (by rw [hp3]; exact pass_ex_any (copyA a K) _ _ d1 d2 true t _ (HT4.out.ofB.m.below (below_regrown U x os)) HOB.out HT.out))
      have j1 : decide (p2 ≤ p1) = true := decide_eq_true (by
        rw [hp1, hp2]
        exact (pass_spec false HO.out HT.out).less (pass_spec true HO.out HT.out) (fun u => HO.out.low u))
      have j2 : decide (p3 ≤ p1) = true := decide_eq_true (by
        rw [hp1, hp3]
        exact (pass_spec true HOB.out HT.out).less (pass_spec true HO.out HT.out) (fun u => (HLE.out u).1))
      have j3 : decide (p2 ≤ p3) = true := decide_eq_true (by
        rw [hp2, hp3]
        exact (pass_spec false HO.out HT.out).less (pass_spec true HOB.out HT.out) (fun u => (HLE.out u).2))
      clear hp1 hp2 hp3
      obtain ⟨k0, k1, k2, k3⟩ := box_cells HT4.out.ofA.k
      obtain ⟨n0, n1, n2, n3⟩ := box_cells HT4.out.ofB.k
      simp only [copyA] at n0 n1
      have e0 := cell_regrown k0
      have e1 := cell_regrown k1
      have e2 := cell_regrown k2
      have e3 := cell_regrown k3
      have f0 := cell_regrown n0
      have f1 := cell_regrown n1
      have f2 := cell_regrown n2
      have f3 := cell_regrown n3
      go_wp2_with fail
      refine wp_region_quiet_below (by kernel_rfl) (by kernel_rfl) ?_
      repeat (quiet_step (first | (go_at_call 14; with_reducible exact Q1.out _ _) | (go_at_call 14; with_reducible exact Q2.out _ _) | (go_at_call 14; with_reducible exact Q3.out _ _)))
      refine wpQuiet_nil ?_
      intro X hX
      have HT5 := Lib.hid (HT4.out.below (show Below U.heap.size U X by obtain ⟨p, rfl⟩ := hX; exact below_regrown U p.d p.os))
      clear hX e0 e1 e2 e3 f0 f1 f2 f3 k0 k1 k2 k3 n0 n1 n2 n3 Q1 Q2 Q3 HT4
      go_wp2_with fail
      go_ret
      exact ⟨by rfl, HT5.out.ofA.bl⟩
    · clear i12 i13 h12 h13
      have hor : t < 0 ∨ 1048576 < t := by unfold IsT at ht; omega
      have HNT := Lib.hid ht
      clear ht
      obtain ⟨k0, k1, k2, k3⟩ := box_cells HT4.out.ofA.k
      rcases hor with ht0 | ht1
      · go_wp2_with fail
        refine (pass_out a _ _ c c' true t _ HT4.out.ofA.m HO.out HNT.out).mono ?_
        rintro e wn ⟨rfl, hbn⟩
        have HT5 := Lib.hid (HT4.out.below hbn)
        clear HT4 hbn k0 k1 k2 k3
        obtain ⟨k0, k1, k2, k3⟩ := box_cells HT5.out.ofA.k
        go_wp2_with fail
        refine (took_out a _ _ c c' false t _ HT5.out.ofA.m HO.out HNT.out).mono ?_
        rintro e wm ⟨rfl, hbm⟩
        go_wp2_with fail
        go_ret
        exact ⟨by rfl, (HT5.out.below hbm).ofA.bl⟩
      · go_wp2_with fail
        refine (pass_out a _ _ c c' true t _ HT4.out.ofA.m HO.out HNT.out).mono ?_
        rintro e wn ⟨rfl, hbn⟩
        have HT5 := Lib.hid (HT4.out.below hbn)
        clear HT4 hbn k0 k1 k2 k3
        obtain ⟨k0, k1, k2, k3⟩ := box_cells HT5.out.ofA.k
        go_wp2_with fail
        refine (took_out a _ _ c c' false t _ HT5.out.ofA.m HO.out HNT.out).mono ?_
        rintro e wm ⟨rfl, hbm⟩
        go_wp2_with fail
        go_ret
        exact ⟨by rfl, (HT5.out.below hbm).ofA.bl⟩


theorem bounds_law_any (a : Arc) (A A' : Option Addr) (c c' : Nat) (q : Nat) (t y : Int) (w : World) (hM : ArcM w a A A') (hq : q < 256) (hy9 : y ≤ 9223372036854775807) :
    Calls Try.prog 6 #[.agg #[.int .i64 a.f, .int .i64 a.t, .slice A a.lo.length c, .slice A' a.hi.length c'], .int .u8 q, .int .i64 t, .int .i64 y] w fun e w' => e = .returned (.bool true) ∧ Below w.heap.size w w' := by
  by_cases hf : a.lo.length ≤ 40 ∧ a.hi.length ≤ 40
  · by_cases h : a.ok
    · rw [h.2.2.1, h.2.2.2.1]
      exact bounds_law_ok a A A' c c' q t y w hM h hq hy9
    · exact bounds_law_bad a A A' c c' _ _ q t y w hM hf h rfl rfl
  · exact bounds_law_few _ _ A A' c c' _ _ q t y w hf

end Go.Proofs.Ytbojonafadhciaa
