/- Walks: cost, isTime, isNode, isBetter, reach. -/
import Derived.Test.YteiojobgjdfdpaaQg
import Derived.Test.YteiojobgjdfdpaaQb
import Derived.Test.YteiojobgjdfdpaaCe
import Derived.Lib.QuietBelow
namespace Go.Proofs.Yteiojobgjdfdpaa
open Go.RowKit Go.Sort

set_option maxRecDepth 100000 in
theorem cost_any (G : Nat) (bk : Bool) (t : Int) (w : World) (h : w.cell? ⟨G, 0, none⟩ = some (.bool bk)) (h8 : -9000000000000000000 ≤ t) (h9 : t ≤ 9000000000000000000) :
    Calls Try.prog 70 #[.pointer (some ⟨G, 0, none⟩), .int .i64 t] w fun e w' => e = .returned (.int .i64 (cst bk t)) ∧ w = w' := by
  have hw : IntKind.i64.wrap (-t) = -t := by rw [IntKind.wrap_i64]; omega
  go_enter Try.func70, Try.ntmps70
  cases bk
  · go_wp2_with fail
    go_ret
    exact ⟨by rfl, rfl⟩
  · go_wp2_with fail
    go_ret
    exact ⟨by rfl, rfl⟩

set_option maxRecDepth 100000 in
theorem isTime2_any (t : Int) (w : World) (r : Bool) (hr : r = decide (IsT t)) :
    Calls Try.prog 35 #[.int .i64 t] w fun e w' => e = .returned (.bool r) ∧ w = w' := by
  have HR := Lib.hid hr; clear hr
  go_enter Try.func35, Try.ntmps35
  by_cases h1 : 0 ≤ t
  · by_cases h2 : t ≤ 1048576
    · go_wp2_with fail
      go_ret
      exact ⟨by rw [HR.out, decide_eq_true (show IsT t from ⟨h1, h2⟩)]; rfl, rfl⟩
    · go_wp2_with fail
      go_ret
      exact ⟨by rw [HR.out, decide_eq_false (fun h : IsT t => by have := h.1; have := h.2; omega)]; rfl, rfl⟩
  · go_wp2_with fail
    go_ret
    exact ⟨by rw [HR.out, decide_eq_false (fun h : IsT t => by have := h.1; have := h.2; omega)]; rfl, rfl⟩
set_option maxRecDepth 100000 in
theorem isNode_any (n t : Int) (w : World) (r : Bool) (hr : r = decide (0 ≤ t ∧ t < n)) :
    Calls Try.prog 34 #[.int .i64 n, .int .i64 t] w fun e w' => e = .returned (.bool r) ∧ w = w' := by
  have HR := Lib.hid hr; clear hr
  go_enter Try.func34, Try.ntmps34
  by_cases h1 : 0 ≤ t
  · by_cases h2 : t < n
    · go_wp2_with fail
      go_ret
      exact ⟨by rw [HR.out, decide_eq_true ⟨h1, h2⟩]; rfl, rfl⟩
    · go_wp2_with fail
      go_ret
      exact ⟨by rw [HR.out, decide_eq_false (by omega)]; rfl, rfl⟩
  · go_wp2_with fail
    go_ret
    exact ⟨by rw [HR.out, decide_eq_false (by omega)]; rfl, rfl⟩

set_option maxRecDepth 100000 in
set_option maxHeartbeats 4000000 in
theorem isBetter_any (G : Nat) (bk : Bool) (t i t0 i0 : Int) (w : World) (h : w.cell? ⟨G, 0, none⟩ = some (.bool bk)) (h8 : -9000000000000000000 ≤ t) (h9 : t ≤ 9000000000000000000) (k8 : -9000000000000000000 ≤ t0) (k9 : t0 ≤ 9000000000000000000) (r : Bool) (hr : decide (bet bk (t, i) (t0, i0)) = r) :
    Calls Try.prog 68 #[.pointer (some ⟨G, 0, none⟩), .agg #[.int .i64 t, .int .i64 i], .agg #[.int .i64 t0, .int .i64 i0]] w fun e w' => e = .returned (.bool r) ∧ Below w.heap.size w w' := by
  have HR := Lib.hid hr; clear hr
  obtain ⟨W, hW⟩ : ∃ W, (w.alloc (.cells #[.int .i64 t, .int .i64 i] 37)).alloc (.cells #[.int .i64 t0, .int .i64 i0] 37) = W := ⟨_, rfl⟩
  have hB : Below w.heap.size w W := by rw [← hW]; exact ((Below.refl _ _).alloc (Nat.le_refl _) _).alloc (by simp) _
  have hG : W.cell? ⟨G, 0, none⟩ = some (.bool bk) := (hB.cell (block_lt_of_cell h)).trans h
  have b1 : Blk W w.heap.size 37 #[.int .i64 t, .int .i64 i] := by rw [← hW]; exact (Blk.new w _ _).alloc _
  have b2 : Blk W (w.heap.size + 1) 37 #[.int .i64 t0, .int .i64 i0] := by
    rw [← hW]
    have := Blk.new (w.alloc (.cells #[.int .i64 t, .int .i64 i] 37)) 37 #[.int .i64 t0, .int .i64 i0]
    rwa [World.size_alloc] at this
  have c1 : W.cell? ⟨w.heap.size, 0, none⟩ = some (.int .i64 t) := b1.cell 0
  have c2 : W.cell? ⟨w.heap.size, 1, none⟩ = some (.int .i64 i) := b1.cell 1
  have c3 : W.cell? ⟨w.heap.size + 1, 0, none⟩ = some (.int .i64 t0) := b2.cell 0
  have c4 : W.cell? ⟨w.heap.size + 1, 1, none⟩ = some (.int .i64 i0) := b2.cell 1
  have HB := Lib.hid hB
  clear b1 b2 hB
  go_enter Try.func68, Try.ntmps68
  go_upto_region 1 with fail
  clear hW
  by_cases e1 : (t == t0) = true
  · have e2 : t = t0 := by simpa using e1
    go_wp2_with fail
    go_ret
    exact ⟨by rw [← HR.out]; simp [bet, e2], HB.out⟩
  have e1 : (t == t0) = false := by simpa using e1
  have e2 : t ≠ t0 := by simpa using e1
  have E2 := Lib.hid e2; clear e2
  by_cases e3 : (t0 == -1) = true
  · have e4 : t0 = -1 := by simpa using e3
    have E4 := Lib.hid e4; clear e4
    go_wp2_with fail
    go_quiet (fail)
    go_wp2_with fail
    go_ret
    exact ⟨by rw [← HR.out, decide_eq_true (.inr ⟨E2.out, .inl E4.out⟩)]; rfl, below_drewN HB.out _⟩
  have e3 : (t0 == -1) = false := by simpa using e3
  have e4 : t0 ≠ -1 := by simpa using e3
  have E4 := Lib.hid e4; clear e4
  have C1 := Lib.hid (fun q => (cost_any G bk t (W.drewN q) hG h8 h9).mono (R' := fun e w' => e = .returned (.int .i64 (cst bk t)) ∧ w' = W.drewN q) (fun _ _ ⟨a, b⟩ => ⟨a, b.symm⟩))
  have C2 := Lib.hid (fun q => (cost_any G bk t0 (W.drewN q) hG k8 k9).mono (R' := fun e w' => e = .returned (.int .i64 (cst bk t0)) ∧ w' = W.drewN q) (fun _ _ ⟨a, b⟩ => ⟨a, b.symm⟩))
  have hfin : decide (cst bk t < cst bk t0) = r := by
    rw [← HR.out]
    apply decide_eq_decide.2
    unfold bet
    have := E2.out
    have := E4.out
    simp only
    constructor
    · intro h; exact .inr ⟨E2.out, .inr h⟩
    · rintro (⟨h, _⟩ | ⟨_, h | h⟩)
      · exact absurd h E2.out
      · exact absurd h E4.out
      · exact h
  obtain ⟨x, hx⟩ : ∃ x, cst bk t = x := ⟨_, rfl⟩
  obtain ⟨y, hy⟩ : ∃ y, cst bk t0 = y := ⟨_, rfl⟩
  rw [hx] at C1 hfin
  rw [hy] at C2 hfin
  have HF := Lib.hid hfin
  clear hfin hx hy
  go_wp2_with fail
  go_quiet ((go_at_call 70; (first | with_reducible exact Calls.quiet_of_same (C1.out _) | with_reducible exact Calls.quiet_of_same (C2.out _))))
  go_wp2_with fail
  go_ret
  exact ⟨by rw [← HF.out]; rfl, below_drewN HB.out _⟩

def bools (n : Nat) (dn : List Nat) : List Value := (List.range n).map (fun v => Value.bool (decide (v ∈ dn)))
theorem bools_get {n : Nat} (dn : List Nat) {v : Nat} (h : v < n) : (bools n dn)[v]? = some (.bool (decide (v ∈ dn))) := by
  unfold bools; rw [List.getElem?_map, List.getElem?_range h]; rfl
/-- The search as it lies: labels in block gl, what is settled in block gd. -/
structure SAt (w : World) (N G gl gd n : Nat) (bk : Bool) (lab : List Lb) (dn : List Nat) (v : Value) (q : List En) : Prop where
  s : Srch w G bk (.slice (some ⟨gl, 0, none⟩) n n) (.slice (some ⟨gd, 0, none⟩) n n) v
  len : lab.length = n
  l : w.ownsRow N 37 2 (.slice (some ⟨gl, 0, none⟩) n n) n (flat lab)
  d : w.ownsRow N 4 1 (.slice (some ⟨gd, 0, none⟩) n n) n (bools n dn)
  oq : OwnQ w (G + 1) v q
  hp : Heap q q.length
  lo : gl < G ∧ gd < G ∧ gl ≠ gd
section
variable {w w' : World} {N G gl gd n : Nat} {bk : Bool} {lab : List Lb} {dn : List Nat} {v : Value} {q : List En}
theorem ownsRow_below {e : TypeId} {sz k : Nat} {xs : List Value} {B : Nat} (h : w.ownsRow B e sz v k xs) (hb : Below w.heap.size w w') : w'.ownsRow B e sz v k xs :=
  World.ownsRow.kept (row := none) h ⟨hb.os, hb.tape, hb.output, hb.size, fun k hk _ => hb.block k hk⟩ (by cases v.ownBlock <;> simp)
theorem SAt.below (h : SAt w N G gl gd n bk lab dn v q) (hb : Below w.heap.size w w') : SAt w' N G gl gd n bk lab dn v q :=
  ⟨h.s.below hb h.s.lt, h.len, ownsRow_below h.l hb, ownsRow_below h.d hb, h.oq.below hb, h.hp, h.lo⟩
theorem SAt.labels (h : SAt w N G gl gd n bk lab dn v q) {k : Nat} (hk : k < n) : w.cell? ⟨gl, k * 2, none⟩ = some (.int .i64 (lb lab k).1) ∧ w.cell? ⟨gl, k * 2 + 1, none⟩ = some (.int .i64 (lb lab k).2) := by
  have hk' : k < lab.length := by rw [h.len]; exact hk
  obtain ⟨h1, h2⟩ := flat_get lab k hk'
  have e : gq lab k = lb lab k := by
    unfold gq lb; rw [List.getD_eq_getElem?_getD, List.getD_eq_getElem?_getD, List.getElem?_eq_getElem hk']; rfl
  rw [e] at h1 h2
  exact ⟨(World.ownsRow.cellAt h.l (k * 2) (by omega)).trans h1, (World.ownsRow.cellAt h.l (k * 2 + 1) (by omega)).trans h2⟩
theorem SAt.settled (h : SAt w N G gl gd n bk lab dn v q) {k : Nat} (hk : k < n) : w.cell? ⟨gd, k, none⟩ = some (.bool (decide (k ∈ dn))) :=
  (World.ownsRow.cellAt h.d k (by omega)).trans (bools_get dn hk)
theorem ownsRow_put {e : TypeId} {sz k : Nat} {xs : List Value} {B g : Nat} {a : Addr} {u : Value} {c : Nat} (h : w.ownsRow B e sz (.slice (some ⟨g, 0, none⟩) k c) k xs) (hg : g ≠ a.block) : (w.setCell a u).ownsRow B e sz (.slice (some ⟨g, 0, none⟩) k c) k xs :=
  World.ownsRow.kept (row := some a.block) h ⟨rfl, rfl, rfl, by simp, fun k hk hn => Below.heap_setCell w a u k (fun e => hn (by rw [e]))⟩ (.inr (fun e => hg (by injection e)))
theorem ownQ_put {B : Nat} {a : Addr} {u : Value} (h : OwnQ w B v q) (hg : a.block < B) : OwnQ (w.setCell a u) B v q :=
  World.ownsRow.kept (row := some a.block) h ⟨rfl, rfl, rfl, by simp, fun k hk hn => Below.heap_setCell w a u k (fun e => hn (by rw [e]))⟩ (by
    cases ho : v.ownBlock with
    | none => exact .inl rfl
    | some g =>
      refine .inr (fun e => ?_)
      injection e with e
      have := (World.ownsRow.lt h g ho).1
      omega)
/-- A label is stored. -/
theorem SAt.put (h : SAt w N G gl gd n bk lab dn v q) {k : Nat} (hk : k < n) (x : Lb) : SAt (st2 w gl k x) N G gl gd n bk (lab.set k x) dn v q := by
  have h1 := (World.ownsRow.stored h.l (k * 2) (.int .i64 x.1)).1
  have h2 := (World.ownsRow.stored h1 (k * 2 + 1) (.int .i64 x.2)).1
  rw [flat_set lab k x (by rw [h.len]; exact hk)] at h2
  have lo := h.lo
  refine ⟨(h.s.far (p := ⟨gl, k * 2, none⟩) (by show G ≠ gl; omega) _).far (p := ⟨gl, k * 2 + 1, none⟩) (by show G ≠ gl; omega) _, by rw [List.length_set]; exact h.len, h2, ?_, ?_, h.hp, h.lo⟩
  · exact ownsRow_put (ownsRow_put h.d (by show gd ≠ gl; omega)) (by show gd ≠ gl; omega)
  · exact ownQ_put (ownQ_put h.oq (by show gl < G + 1; omega)) (by show gl < G + 1; omega)
end
/-- The blocks that the search writes. -/
def SB (G gl gd : Nat) (v : Value) (b : Nat) : Prop := b = G ∨ b = gl ∨ b = gd ∨ v.ownBlock = some b
def Later (w : World) (v v' : Value) : Prop := v'.ownBlock = v.ownBlock ∨ ∃ b, v'.ownBlock = some b ∧ w.heap.size ≤ b
def ReachP (w : World) (N G gl gd n : Nat) (bk : Bool) (lab : List Lb) (dn : List Nat) (v : Value) (q : List En) (k : Nat) (t i : Int) (e : Ending) (w' : World) : Prop :=
  e = .returned (.tuple #[]) ∧ ∃ v' q', SAt w' N G gl gd n bk (if IsT t ∧ k ∉ dn ∧ bet bk (t, i) (lb lab k) then lab.set k (t, i) else lab) dn v' q' ∧ q'.length ≤ q.length + 1 ∧
    (∀ y, y ∈ q' ↔ y ∈ q ∨ ((IsT t ∧ k ∉ dn ∧ bet bk (t, i) (lb lab k)) ∧ y = (cst bk t, (k : Int)))) ∧ Fr (SB G gl gd v) w w' ∧ Later w v v'

end Go.Proofs.Yteiojobgjdfdpaa
