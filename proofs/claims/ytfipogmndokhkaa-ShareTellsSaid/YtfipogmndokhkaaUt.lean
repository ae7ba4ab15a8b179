/- append of shares, as a step; lists of shares at 1, 2, .. -/
import Derived.Test.YtfipogmndokhkaaUr
import Derived.Maps.AppendAt
namespace Go.Proofs.Ytfipogmndokhkaa
open Go.RowKit

theorem run_appS (w : World) (ty : TypeId) (B : Nat) (v : Value) (ds es : List (Int × Int)) (A : Option Addr) (m c : Nat) (hown : OwnS w B v ds) (hm : es.length = m) (hsrc : ShAt w.heap.size w A es) (hb : ds.length + m ≤ 1000000) (hbase : B ≤ w.heap.size) :
    ∃ v' w', (Builtin.append_ #[22, 22] ty #[v, .slice A m c]).run Try.prog w = .ok v' w' ∧ OwnS w' B v' (ds ++ es) ∧ w.grownBy w' v.ownBlock ∧ (v'.ownBlock = v.ownBlock ∨ v'.ownBlock = some w.heap.size) := by
  obtain ⟨i0, hi, hz0, hz1, hz2⟩ := info_parts Try.infoSh
  subst hm
  have hpl := pc_length es
  cases A with
  | some ad =>
    obtain ⟨v', w', a1, a2, a3, _, a4⟩ := run_append_own_at (P := Try.prog) w B 22 ty 39 i0 (.agg #[.int .i64 0, .int .i64 0]) 2 16 Try.underlying22 hi hz0 hz1 hz2 rfl (by decide) v ds.length (pc ds) hown ad es.length c (pc es) hpl (sh_src hsrc) (pc_oneCell es) (by unfold maxLen; omega) (by omega) hbase
    refine ⟨v', w', a1, ?_, a3, a4⟩
    unfold OwnS
    rw [List.length_append, pc_append]
    exact a2
  | none =>
    have he : es = [] := by
      cases es with
      | nil => rfl
      | cons d es => obtain ⟨b, off, e, _⟩ := hsrc 0 (by simp); cases e
    subst he
    refine ⟨v, w, ?_, by rw [List.append_nil]; exact hown, ⟨rfl, rfl, rfl, Nat.le_refl _, fun _ _ _ => rfl⟩, .inl rfl⟩
    rcases hown.2 with ⟨rfl, hn⟩ | ⟨g, cap, cur, rfl, _, _, hnc, _⟩
    · simp [Builtin.append_, run_underlying Try.underlying22, sizeOf, typeInfo, hi, Builtin.lenOf, Builtin.firstCells]
    · simp [Builtin.append_, run_underlying Try.underlying22, sizeOf, typeInfo, hi, Builtin.lenOf, Builtin.firstCells, loadCells, hnc, storeCells]

/-- append at a step of a region that draws its order. -/
theorem step_appS {w : World} {ops : Array Oper} {o : Oper} {a : Act} {K : Act → World → Prop} {Q : Exit → Act → World → Prop} {E : Prop} (hgd : o.guard = none) (s x : Operand)
    (ho : o.op = .call { callee := .builtin .append, args := #[s, x], argTypes := #[22, 22] })
    (B : Nat) (v : Value) (ds es : List (Int × Int)) (A : Option Addr) (m c : Nat) (hs : a.eval s = v) (hown : OwnS w B v ds)
    (hx : a.eval x = .slice A m c) (hm : es.length = m) (hsrc : ShAt w.heap.size w A es) (hb : ds.length + m ≤ 1000000) (hbase : B ≤ w.heap.size)
    (h : ∀ v' w', OwnS w' B v' (ds ++ es) → w.grownBy w' v.ownBlock → (v'.ownBlock = v.ownBlock ∨ v'.ownBlock = some w.heap.size) → K (a.put o.dst v') w') :
    if Region.wanted o (yielded ops a.tmps) = true then Oper.wp Try.prog o a w K Q else E := by
  have hw : Region.wanted o (yielded ops a.tmps) = true := by simp [Region.wanted, hgd]
  rw [if_pos hw]
  obtain ⟨v', w', hr, h2, h3, h4⟩ := run_appS w o.type B v ds es A m c hown hm hsrc hb hbase
  unfold Oper.wp execOp
  simp only [ho, resolve, invoke, builtin, Sem.run_bind, Sem.run_pure, Result.andThen_ok, List.map_toArray, List.map_cons, List.map_nil, hs, hx, hr]
  exact h v' w' h2 h3 h4
/-- append, with where the new slice lies. -/
theorem appS_at {w : World} {ops : Array Oper} {rest : List Oper} {o : Oper} {a : Act} {Q : Exit → Act → World → Prop} (hgd : o.guard = none) (s x : Operand)
    (ho : o.op = .call { callee := .builtin .append, args := #[s, x], argTypes := #[22, 22] })
    (B : Nat) (v : Value) (ds es : List (Int × Int)) (A : Option Addr) (m c : Nat) (hs : a.eval s = v) (hown : OwnS w B v ds)
    (hx : a.eval x = .slice A m c) (hm : es.length = m) (hsrc : ShAt w.heap.size w A es) (hb : ds.length + m ≤ 1000000) (hbase : B ≤ w.heap.size)
    (h : ∀ v' w', OwnS w' B v' (ds ++ es) → w.grownBy w' v.ownBlock → (v'.ownBlock = v.ownBlock ∨ v'.ownBlock = some w.heap.size) → wpList Try.prog ops Q rest (a.put o.dst v') w') : wpList Try.prog ops Q (o :: rest) a w := by
  obtain ⟨v', w', hr, h2, h3, h4⟩ := run_appS w o.type B v ds es A m c hown hm hsrc hb hbase
  refine wpList_plain hgd fun K' hK' => ?_
  unfold Oper.wp execOp
  simp only [ho, resolve, invoke, builtin, Sem.run_bind, Sem.run_pure, Result.andThen_ok, List.map_toArray, List.map_cons, List.map_nil, hs, hx, hr]
  exact hK' _ _ (h v' w' h2 h3 h4)

/-- The shares F 0, F 1, .. at 1, 2, .. -/
def gl (F : Nat → Int) (n : Nat) : List (Int × Int) := (List.range n).map fun (i : Nat) => ((i : Int) + 1, F i)
theorem gl_len (F : Nat → Int) (n : Nat) : (gl F n).length = n := by simp [gl]
theorem gl_succ (F : Nat → Int) (n : Nat) : gl F (n + 1) = gl F n ++ [((n : Int) + 1, F n)] := by
  unfold gl
  rw [List.range_succ, List.map_append]
  rfl
theorem gl_mem {F : Nat → Int} {n : Nat} {d : Int × Int} (h : d ∈ gl F n) : ∃ i, i < n ∧ d = ((i : Int) + 1, F i) := by
  obtain ⟨i, hi, rfl⟩ := List.mem_map.1 h
  exact ⟨i, List.mem_range.1 hi, rfl⟩
theorem gl_get (F : Nat → Int) {n i : Nat} (hi : i < n) : (gl F n).getD i (0, 0) = ((i : Int) + 1, F i) := by
  unfold gl
  rw [List.getD_eq_getElem?_getD, List.getElem?_map, List.getElem?_range hi]
  rfl
theorem gl_rt {F : Nat → Int} {n : Nat} (hn : n ≤ 20) (hF : ∀ i, i < n → 0 ≤ F i ∧ F i < 2147483647) : Rt (gl F n) := fun d hd => by
  obtain ⟨i, hi, rfl⟩ := gl_mem hd
  have := hF i hi
  simp only
  omega
theorem gl_thru {F : Nat → Int} {n : Nat} {f : Int → Int} (h : ∀ i, i < n → Cg (f ((i : Int) + 1)) (F i)) : Thru f (gl F n) := Thru.of_mem fun d hd => by
  obtain ⟨i, hi, rfl⟩ := gl_mem hd
  exact h i hi
theorem gl_nodup (F : Nat → Int) (n : Nat) : ((gl F n).map (·.1)).Nodup := by
  unfold gl
  rw [List.map_map]
  unfold List.Nodup
  rw [List.pairwise_map]
  refine List.Pairwise.imp ?_ (List.nodup_range (n := n))
  intro a b hab h
  simp only [Function.comp] at h
  omega
theorem OwnS.kept {w w' : World} {B : Nat} {v : Value} {ds : List (Int × Int)} {row : Option Nat} (h : OwnS w B v ds) (hg : w.grownBy w' row) (hne : v.ownBlock = none ∨ v.ownBlock ≠ row) : OwnS w' B v ds := World.ownsRow.kept h hg hne

end Go.Proofs.Ytfipogmndokhkaa
