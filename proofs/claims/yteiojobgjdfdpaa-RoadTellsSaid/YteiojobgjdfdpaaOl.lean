/- The reference's search, as it lies; none. -/
import Derived.Test.YteiojobgjdfdpaaQt
import Derived.Test.YteiojobgjdfdpaaOb
namespace Go.Proofs.Yteiojobgjdfdpaa
open Go.RowKit Go.Shelf

/-- Labels owned as a slice value v from block B on. -/
def OwnLb (w : World) (B : Nat) (v : Value) (q : List Lb) : Prop := w.ownsRow B 37 2 v q.length (flat q)
theorem OwnLb.below {w w' : World} {B : Nat} {v : Value} {q : List Lb} (h : OwnLb w B v q) (hb : Below w.heap.size w w') : OwnLb w' B v q :=
  World.ownsRow.kept (row := none) h ⟨hb.os, hb.tape, hb.output, hb.size, fun k hk _ => hb.block k hk⟩ (by cases v.ownBlock <;> simp)
theorem grown_belL {B : Nat} {w0 w w' : World} {v : Value} {ds : List Lb} (h : Below B w0 w) (hown : OwnLb w B v ds) (hg : w.grownBy w' v.ownBlock) (hB : B ≤ w0.heap.size) : Below B w0 w' :=
  ⟨hg.os.trans h.os, hg.tape.trans h.tape, hg.output.trans h.output, Nat.le_trans h.size hg.size, fun k hk => (hg.block k (by have := h.size; omega) (fun e => by have := (World.ownsRow.lt hown k e.symm).1; omega)).trans (h.block k hk)⟩
theorem appL {w : World} {ops : Array Oper} {rest : List Oper} {o : Oper} {a : Act} {Q : Exit → Act → World → Prop} (hgd : o.guard = none) (s x : Operand)
    (ho : o.op = .call { callee := .builtin .append, args := #[s, x], argTypes := #[23, 23] })
    (B : Nat) (v : Value) (l : List Lb) (c : Lb) (hs : a.eval s = v) (hown : OwnLb w B v l)
    (hx : a.eval x = .slice (some ⟨w.heap.size, 0, none⟩) 1 1) (hb : l.length ≤ 1000000) (hbase : B ≤ w.heap.size)
    (h : ∀ v' w', OwnLb w' B v' (l ++ [c]) → Below B w w' → wpList Try.prog ops Q rest (a.put o.dst v') w') : wpList Try.prog ops Q (o :: rest) a (w.alloc (.cells #[.int .i64 c.1, .int .i64 c.2] 37)) := by
  obtain ⟨i0, hi, hz0, hz1, hz2⟩ := info_parts Try.infoLb
  have hk := Blk.new w 37 #[.int .i64 c.1, .int .i64 c.2]
  refine wpList_append_own _ hgd s x 23 ho B 37 i0 (.agg #[.int .i64 0, .int .i64 0]) 2 16 Try.underlying23 hi hz0 hz1 hz2 rfl (by decide) _ _ _ hs (World.ownsRow.alloc hown _) ⟨w.heap.size, 0, none⟩ 1 1 [.int .i64 c.1, .int .i64 c.2] hx rfl ?_ ?_ ?_ ?_ ?_ ?_
  · intro j u hj
    match j, hj with
    | 0, hj => simp at hj; subst hj; exact hk.cell 0
    | 1, hj => simp at hj; subst hj; exact hk.cell 1
    | j + 2, hj => simp at hj
  · intro u hu; simp at hu; rcases hu with rfl | rfl <;> rfl
  · unfold maxLen; omega
  · omega
  · simp; omega
  · intro v' w1 hown' hgrow _
    refine h v' w1 ?_ ?_
    · unfold OwnLb
      rw [List.length_append, flat_snoc]
      exact hown'
    · exact ((Below.refl B w).alloc hbase _).grown hgrow (by simp; omega) (fun k hk => (World.ownsRow.lt hown k hk).1)

def NoneP (w : World) (n : Nat) (e : Ending) (w' : World) : Prop := ∃ v, e = .returned v ∧ OwnLb w' w.heap.size v (List.replicate n ((-1, -1) : Lb)) ∧ Below w.heap.size w w'
set_option maxRecDepth 100000 in
set_option maxHeartbeats 8000000 in
theorem none_any (n : Nat) (w : World) (hn : n ≤ 100000) : Calls Try.prog 41 #[.int .i64 n] w (NoneP w n) := by
  go_enter Try.func41, Try.ntmps41
  go_wp2_with fail
  go_loopw [3, 4] (fun xv iv wr => ∃ i : Nat, iv = .int .i64 i ∧ i ≤ n ∧ Hid (OwnLb wr w.heap.size xv (List.replicate i ((-1, -1) : Lb))) ∧ Hid (Below w.heap.size w wr)) (fun _ iv _ => n - (intOf iv).toNat)
  case atStart => exact ⟨0, rfl, by omega, Lib.hid (World.ownsRow_nil _ _ _ _), Lib.hid (Below.refl _ _)⟩
  case round =>
    obtain ⟨i, rfl, hi, hO, hB⟩ := hrel
    by_cases hgo : i < n
    · have hsz := hB.out.size
      go_wp2_with (at_builtin; refine appL rfl (.tmp 10) (.tmp 12) rfl w.heap.size _ (List.replicate i ((-1, -1) : Lb)) (-1, -1) rfl hO.out rfl (by simp; omega) hsz ?_; intro v1 w1 hown1 hb1)
      have h2 : Hid (OwnLb w1 w.heap.size v1 (List.replicate (i + 1) ((-1, -1) : Lb))) := Lib.hid (by
        rw [List.replicate_succ']
        exact hown1)
      go_roundw
      case rel => exact ⟨i + 1, rfl, by omega, h2, Lib.hid (hB.out.trans hb1)⟩
      case measure => simp [intOf]; omega
    · have : i = n := by omega
      subst this
      go_wp2_with fail
      go_ret
      exact ⟨_, by rfl, hO.out, hB.out⟩

structure RS (w : World) (N gl gd n cap : Nat) (lab : List Lb) (dn : List Nat) : Prop where
  len : lab.length = n
  l : w.ownsRow N 37 2 (.slice (some ⟨gl, 0, none⟩) n cap) n (flat lab)
  d : w.ownsRow N 4 1 (.slice (some ⟨gd, 0, none⟩) n n) n (bools n dn)
  ne : gl ≠ gd
section
variable {w w' : World} {N gl gd n cap : Nat} {lab : List Lb} {dn : List Nat}
theorem RS.below (h : RS w N gl gd n cap lab dn) (hb : Below w.heap.size w w') : RS w' N gl gd n cap lab dn := ⟨h.len, ownsRow_below h.l hb, ownsRow_below h.d hb, h.ne⟩
theorem RS.bl (h : RS w N gl gd n cap lab dn) : N ≤ gl ∧ N ≤ gd := ⟨(World.ownsRow.lt h.l gl rfl).1, (World.ownsRow.lt h.d gd rfl).1⟩
theorem RS.labels (h : RS w N gl gd n cap lab dn) {k : Nat} (hk : k < n) : w.cell? ⟨gl, k * 2, none⟩ = some (.int .i64 (lb lab k).1) ∧ w.cell? ⟨gl, k * 2 + 1, none⟩ = some (.int .i64 (lb lab k).2) := by
  have hk' : k < lab.length := by rw [h.len]; exact hk
  obtain ⟨h1, h2⟩ := flat_get lab k hk'
  have e : gq lab k = lb lab k := by
    unfold gq lb; rw [List.getD_eq_getElem?_getD, List.getD_eq_getElem?_getD, List.getElem?_eq_getElem hk']; rfl
  rw [e] at h1 h2
  exact ⟨(World.ownsRow.cellAt h.l (k * 2) (by omega)).trans h1, (World.ownsRow.cellAt h.l (k * 2 + 1) (by omega)).trans h2⟩
theorem RS.settled (h : RS w N gl gd n cap lab dn) {k : Nat} (hk : k < n) : w.cell? ⟨gd, k, none⟩ = some (.bool (decide (k ∈ dn))) :=
  (World.ownsRow.cellAt h.d k (by omega)).trans (bools_get dn hk)
theorem RS.put (h : RS w N gl gd n cap lab dn) {k : Nat} (hk : k < n) (x : Lb) : RS (st2 w gl k x) N gl gd n cap (lab.set k x) dn := by
  have h1 := (World.ownsRow.stored h.l (k * 2) (.int .i64 x.1)).1
  have h2 := (World.ownsRow.stored h1 (k * 2 + 1) (.int .i64 x.2)).1
  rw [flat_set lab k x (by rw [h.len]; exact hk)] at h2
  exact ⟨by rw [List.length_set]; exact h.len, h2, ownsRow_put (ownsRow_put h.d h.ne.symm) h.ne.symm, h.ne⟩
theorem RS.putBelow (h : RS w N gl gd n cap lab dn) {B : Nat} {w0 : World} (hB : B ≤ N) (hb : Below B w0 w) (k : Nat) (x : Lb) : Below B w0 (st2 w gl k x) := by
  have := h.bl.1
  exact (hb.setCell (p := ⟨gl, k * 2, none⟩) (by show B ≤ gl; omega) _).setCell (p := ⟨gl, k * 2 + 1, none⟩) (by show B ≤ gl; omega) _
theorem RS.mark (h : RS w N gl gd n cap lab dn) (u : Nat) : RS (w.setCell ⟨gd, u, none⟩ (.bool true)) N gl gd n cap lab (u :: dn) := by
  have h1 := (World.ownsRow.stored h.d u (.bool true)).1
  rw [bools_set] at h1
  exact ⟨h.len, ownsRow_put h.l h.ne, h1, h.ne⟩
end

end Go.Proofs.Yteiojobgjdfdpaa
