/- append of arcs. -/
import Derived.Test.YteiojobgjdfdpaaQp
import Derived.Maps.AppendAt
namespace Go.Proofs.Yteiojobgjdfdpaa
open Go.RowKit

theorem Try.infoAm : (Try.prog.info? 39).map (fun i => (i.zero, i.size, i.bytes)) = some (some (.agg #[.int .i64 0, .int .i64 0, .slice none 0 0, .slice none 0 0]), 4, 64) := by kernel_rfl
/-- The cells of arcs, one behind the other. -/
def acs (l : List Am) : List Value := l.flatMap fun x => [Value.int .i64 x.a.f, .int .i64 x.a.t, .slice x.A x.a.lo.length x.c, .slice x.A' x.a.hi.length x.c']
theorem acs_length (l : List Am) : (acs l).length = l.length * 4 := by
  induction l with
  | nil => rfl
  | cons p l ih => simp only [acs, List.flatMap_cons, List.length_append, List.length_cons, List.length_nil] at ih ⊢; omega
theorem acs_append (a b : List Am) : acs (a ++ b) = acs a ++ acs b := by simp [acs]
/-- The four cells of an arc, from a look-up. -/
def Four (look : Nat → Option Value) (i : Nat) (x : Am) : Prop :=
  look i = some (.int .i64 x.a.f) ∧ look (i + 1) = some (.int .i64 x.a.t) ∧ look (i + 2) = some (.slice x.A x.a.lo.length x.c) ∧ look (i + 3) = some (.slice x.A' x.a.hi.length x.c')
theorem acs_get (l : List Am) (j : Nat) (h : j < l.length) : Four (fun i => (acs l)[i]?) (j * 4) (am l j) := by
  induction l generalizing j with
  | nil => simp at h
  | cons p l ih =>
    cases j with
    | zero => simp [acs, Four]
    | succ j =>
      have h1 := ih j (by simpa using h)
      have e : (j + 1) * 4 = j * 4 + 1 + 1 + 1 + 1 := by omega
      have e3 : ∀ l, acs (p :: l) = Value.int .i64 p.a.f :: .int .i64 p.a.t :: .slice p.A p.a.lo.length p.c :: .slice p.A' p.a.hi.length p.c' :: acs l := fun _ => rfl
      show Four _ _ ((p :: l).getD (j + 1) anil)
      rw [e, e3, List.getD_cons_succ]
      simpa [Four] using h1
theorem acs_oneCell (l : List Am) : ∀ u ∈ acs l, u.oneCell' = true := by
  intro u hu
  unfold acs at hu
  obtain ⟨p, _, hp⟩ := List.mem_flatMap.1 hu
  simp at hp
  rcases hp with rfl | rfl | rfl | rfl <;> rfl
/-- A slice value v of arcs, owned from block B on. -/
def OwnA (w : World) (B : Nat) (v : Value) (rs : List Am) : Prop := w.ownsRow B 39 4 v rs.length (acs rs)
theorem OwnA.below {w w' : World} {B : Nat} {v : Value} {rs : List Am} (h : OwnA w B v rs) (hb : Below w.heap.size w w') : OwnA w' B v rs :=
  World.ownsRow.kept (row := none) h ⟨hb.os, hb.tape, hb.output, hb.size, fun k hk _ => hb.block k hk⟩ (by cases v.ownBlock <;> simp)
theorem OwnA.form {w : World} {B : Nat} {v : Value} {rs : List Am} (h : OwnA w B v rs) : ∃ A c, v = .slice A rs.length c ∧ rs.length ≤ c ∧ ∀ k, k < rs.length → ∃ g, A = some ⟨g, 0, none⟩ ∧ g < w.heap.size ∧ Four (fun i => w.cell? ⟨g, i, none⟩) (k * 4) (am rs k) := by
  rcases h.2 with ⟨rfl, hn⟩ | ⟨g, cap, cur, rfl, hb, hg, hnc, hcm, hcs, htake⟩
  · exact ⟨none, 0, by rw [hn], by omega, fun k hk => by omega⟩
  · refine ⟨_, cap, rfl, by omega, fun k hk => ⟨g, rfl, (Array.getElem?_eq_some_iff.1 hg).1, ?_⟩⟩
    obtain ⟨f0, f1, f2, f3⟩ := acs_get rs k hk
    simp only at f0 f1 f2 f3
    exact ⟨(World.ownsRow.cellAt h (k * 4) (by omega)).trans f0, (World.ownsRow.cellAt h (k * 4 + 1) (by omega)).trans f1, (World.ownsRow.cellAt h (k * 4 + 2) (by omega)).trans f2, (World.ownsRow.cellAt h (k * 4 + 3) (by omega)).trans f3⟩
/-- The list, with the arcs' own lists where they lie. -/
theorem OwnA.arcs {w : World} {B : Nat} {v : Value} {rs : List Am} (h : OwnA w B v rs) (hM : ∀ k, k < rs.length → IntsAt w.heap.size w (am rs k).A (am rs k).a.lo ∧ IntsAt w.heap.size w (am rs k).A' (am rs k).a.hi) : ∃ A c, v = .slice A rs.length c ∧ ArcsAt w.heap.size w A rs := by
  obtain ⟨A, c, e, _, hk⟩ := h.form
  refine ⟨A, c, e, fun k hk' => ?_⟩
  obtain ⟨g, rfl, hg, h0, h1, h2, h3⟩ := hk k hk'
  have e0 : 0 + k * 4 = k * 4 := Nat.zero_add _
  exact ⟨g, 0, rfl, hg, by rw [e0]; exact h0, by rw [e0]; exact h1, by rw [e0]; exact h2, by rw [e0]; exact h3, (hM k hk').1, (hM k hk').2⟩
theorem acs_src {w : World} {B : Nat} {ad : Addr} {rs : List Am} (h : ArcsAt B w (some ad) rs) : ∀ j u, (acs rs)[j]? = some u → w.cell? (ad.add j) = some u := fun j u hj => by
  have hlt := (List.getElem?_eq_some_iff.1 hj).1
  rw [acs_length] at hlt
  obtain ⟨b, off, e, _, h0, h1, h2, h3, _⟩ := h (j / 4) (by omega)
  injection e with e
  subst e
  obtain ⟨f0, f1, f2, f3⟩ := acs_get rs (j / 4) (by omega)
  simp only at f0 f1 f2 f3
  rw [← f0] at h0
  rw [← f1] at h1
  rw [← f2] at h2
  rw [← f3] at h3
  rw [Go.WideShapes.add_plain, ← hj]
  rcases (show j = j / 4 * 4 ∨ j = j / 4 * 4 + 1 ∨ j = j / 4 * 4 + 2 ∨ j = j / 4 * 4 + 3 by omega) with e | e | e | e
  · have e2 : off + j = off + j / 4 * 4 := by omega
    rw [e2, h0, ← e]
  · have e2 : off + j = off + j / 4 * 4 + 1 := by omega
    rw [e2, h1, ← e]
  · have e2 : off + j = off + j / 4 * 4 + 2 := by omega
    rw [e2, h2, ← e]
  · have e2 : off + j = off + j / 4 * 4 + 3 := by omega
    rw [e2, h3, ← e]
theorem run_appA (w : World) (ty : TypeId) (B : Nat) (v : Value) (ds es : List Am) (A : Option Addr) (m c B' : Nat) (hown : OwnA w B v ds) (hm : es.length = m) (hsrc : ArcsAt B' w A es) (hb : (ds.length + m) * 64 ≤ 140737488355328) (hbase : B ≤ w.heap.size) :
    ∃ v' w', (Builtin.append_ #[22, 22] ty #[v, .slice A m c]).run Try.prog w = .ok v' w' ∧ OwnA w' B v' (ds ++ es) ∧ w.grownBy w' v.ownBlock ∧ (v'.ownBlock = v.ownBlock ∨ v'.ownBlock = some w.heap.size) := by
  obtain ⟨i0, hi, hz0, hz1, hz2⟩ := info_parts Try.infoAm
  subst hm
  have hpl := acs_length es
  cases A with
  | some ad =>
    obtain ⟨v', w', a1, a2, a3, _, a4⟩ := run_append_own_at (P := Try.prog) w B 22 ty 39 i0 (.agg #[.int .i64 0, .int .i64 0, .slice none 0 0, .slice none 0 0]) 4 64 Try.underlying22 hi hz0 hz1 hz2 rfl (by decide) v ds.length (acs ds) hown ad es.length c (acs es) hpl (acs_src hsrc) (acs_oneCell es) (by unfold maxLen; omega) hb hbase
    refine ⟨v', w', a1, ?_, a3, a4⟩
    unfold OwnA
    rw [List.length_append, acs_append]
    exact a2
  | none =>
    have he : es = [] := by
      cases es with
      | nil => rfl
      | cons d es => obtain ⟨b, off, e, _⟩ := hsrc 0 (by simp); cases e
    subst he
    refine ⟨v, w, ?_, by rw [List.append_nil]; exact hown, ⟨rfl, rfl, rfl, Nat.le_refl _, fun _ _ _ => rfl⟩, .inl rfl⟩
    rcases hown.2 with ⟨rfl, hn⟩ | ⟨g, cap, cur, rfl, _, _, hnc, _⟩
    · simp [Builtin.append_, run_underlying Try.underlying22, sizeOf, typeInfo, hi, Builtin.lenOf, Builtin.firstCells]
    · simp [Builtin.append_, run_underlying Try.underlying22, sizeOf, typeInfo, hi, Builtin.lenOf, Builtin.firstCells, loadCells, hnc, storeCells]
/-- append at a step of a region that draws its order. -/
theorem step_appA {w : World} {ops : Array Oper} {o : Oper} {a : Act} {K : Act → World → Prop} {Q : Exit → Act → World → Prop} {E : Prop} (hgd : o.guard = none) (s x : Operand)
    (ho : o.op = .call { callee := .builtin .append, args := #[s, x], argTypes := #[22, 22] })
    (B : Nat) (v : Value) (ds es : List Am) (A : Option Addr) (m c B' : Nat) (hs : a.eval s = v) (hown : OwnA w B v ds)
    (hx : a.eval x = .slice A m c) (hm : es.length = m) (hsrc : ArcsAt B' w A es) (hb : (ds.length + m) * 64 ≤ 140737488355328) (hbase : B ≤ w.heap.size)
    (h : ∀ v' w', OwnA w' B v' (ds ++ es) → w.grownBy w' v.ownBlock → (v'.ownBlock = v.ownBlock ∨ v'.ownBlock = some w.heap.size) → K (a.put o.dst v') w') :
    if Region.wanted o (yielded ops a.tmps) = true then Oper.wp Try.prog o a w K Q else E := by
  have hw : Region.wanted o (yielded ops a.tmps) = true := by simp [Region.wanted, hgd]
  rw [if_pos hw]
  obtain ⟨v', w', hr, h2, h3, h4⟩ := run_appA w o.type B v ds es A m c B' hown hm hsrc hb hbase
  unfold Oper.wp execOp
  simp only [ho, resolve, invoke, builtin, Sem.run_bind, Sem.run_pure, Result.andThen_ok, List.map_toArray, List.map_cons, List.map_nil, hs, hx, hr]
  exact h v' w' h2 h3 h4
theorem emptyA (w : World) {B : Nat} (hB : B ≤ w.heap.size) : OwnA (w.alloc (.cells #[] 39)) B (.slice (some ⟨w.heap.size, 0, none⟩) 0 0) [] :=
  ⟨rfl, .inr ⟨w.heap.size, 0, #[], rfl, hB, heap_alloc_new w _, Nat.le_refl _, Nat.zero_le _, rfl, rfl⟩⟩
theorem grown_belA {B : Nat} {w0 w w' : World} {v : Value} {ds : List Am} (h : Below B w0 w) (hown : OwnA w B v ds) (hg : w.grownBy w' v.ownBlock) (hB : B ≤ w0.heap.size) : Below B w0 w' :=
  ⟨hg.os.trans h.os, hg.tape.trans h.tape, hg.output.trans h.output, Nat.le_trans h.size hg.size, fun k hk => (hg.block k (by have := h.size; omega) (fun e => by have := (World.ownsRow.lt hown k e.symm).1; omega)).trans (h.block k hk)⟩
/-- A literal of one arc. -/
theorem lit_arc (w : World) (x : Am) (B : Nat) (hl : IntsAt w.heap.size w x.A x.a.lo) (hh : IntsAt w.heap.size w x.A' x.a.hi) (hB : w.heap.size < B) : ArcsAt B (w.alloc (.cells #[.int .i64 x.a.f, .int .i64 x.a.t, .slice x.A x.a.lo.length x.c, .slice x.A' x.a.hi.length x.c'] 39)) (some ⟨w.heap.size, 0, none⟩) [x] := fun k hk => by
  have : k = 0 := by simpa using hk
  subst this
  have h := Blk.new w 39 #[.int .i64 x.a.f, .int .i64 x.a.t, .slice x.A x.a.lo.length x.c, .slice x.A' x.a.hi.length x.c']
  have hb := (Below.refl w.heap.size w).alloc (Nat.le_refl _) (.cells #[.int .i64 x.a.f, .int .i64 x.a.t, .slice x.A x.a.lo.length x.c, .slice x.A' x.a.hi.length x.c'] 39)
  exact ⟨_, 0, rfl, hB, h.cell 0, h.cell 1, h.cell 2, h.cell 3, (hl.below hb).more (by omega), (hh.below hb).more (by omega)⟩

end Go.Proofs.Yteiojobgjdfdpaa
