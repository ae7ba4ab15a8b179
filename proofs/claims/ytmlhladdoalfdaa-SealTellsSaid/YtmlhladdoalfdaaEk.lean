/- Memory: slices of signatures; append of signatures; what a law keeps beside a ring. -/
import Derived.Test.YtmlhladdoalfdaaEj
namespace Go.Proofs.Ytmlhladdoalfdaa
open Go.RowKit

abbrev Sg := En × Int
def g0 : Sg := (e0, 0)
def pg (l : List Sg) : List Value := l.flatMap fun p => [Value.int .i64 p.1.1, Value.string p.1.2, Value.int .i64 p.2]
theorem pg_length (l : List Sg) : (pg l).length = l.length * 3 := by
  induction l with
  | nil => rfl
  | cons p l ih => simp only [pg, List.flatMap_cons, List.length_append, List.length_cons, List.length_nil] at ih ⊢; omega
theorem pg_append (a b : List Sg) : pg (a ++ b) = pg a ++ pg b := by simp [pg]
theorem pg_get (l : List Sg) (j : Nat) (h : j < l.length) : (pg l)[3 * j]? = some (.int .i64 l[j].1.1) ∧ (pg l)[3 * j + 1]? = some (.string l[j].1.2) ∧ (pg l)[3 * j + 2]? = some (.int .i64 l[j].2) := by
  induction l generalizing j with
  | nil => simp at h
  | cons p l ih =>
    cases j with
    | zero => simp [pg]
    | succ j =>
      have h1 := ih j (by simpa using h)
      have e1 : 3 * (j + 1) = 3 * j + 1 + 1 + 1 := by omega
      have e2 : 3 * (j + 1) + 1 = 3 * j + 1 + 1 + 1 + 1 := by omega
      have e3 : 3 * (j + 1) + 2 = 3 * j + 2 + 1 + 1 + 1 := by omega
      simp only [pg, List.flatMap_cons] at h1 ⊢
      rw [e2, e3, e1]
      simpa using h1
theorem pg_oneCell (l : List Sg) : ∀ u ∈ pg l, u.oneCell' = true := by
  intro u hu
  unfold pg at hu
  obtain ⟨p, _, hp⟩ := List.mem_flatMap.1 hu
  simp at hp
  rcases hp with rfl | rfl | rfl <;> rfl

/-- The signatures of a slice at address a, in blocks below B. -/
def GAt (B : Nat) (w : World) (a : Option Addr) (ds : List Sg) : Prop :=
  ∀ k, k < ds.length → ∃ b off, a = some ⟨b, off, none⟩ ∧ b < B ∧ w.cell? ⟨b, off + k * 3, none⟩ = some (.int .i64 (ds.getD k g0).1.1) ∧ w.cell? ⟨b, off + k * 3 + 1, none⟩ = some (.string (ds.getD k g0).1.2) ∧ w.cell? ⟨b, off + k * 3 + 2, none⟩ = some (.int .i64 (ds.getD k g0).2)
theorem GAt.nil (B : Nat) (w : World) (a : Option Addr) : GAt B w a [] := fun k hk => by cases hk
theorem GAt.below {B : Nat} {w w' : World} {a : Option Addr} {ds : List Sg} (h : GAt B w a ds) (hb : Below B w w') : GAt B w' a ds := fun k hk => by
  obtain ⟨b, off, e, hB, hc, hd, he⟩ := h k hk
  exact ⟨b, off, e, hB, (hb.cell (p := ⟨b, off + k * 3, none⟩) hB).trans hc, (hb.cell (p := ⟨b, off + k * 3 + 1, none⟩) hB).trans hd, (hb.cell (p := ⟨b, off + k * 3 + 2, none⟩) hB).trans he⟩
theorem GAt.more {B B' : Nat} {w : World} {a : Option Addr} {ds : List Sg} (h : GAt B w a ds) (hb : B ≤ B') : GAt B' w a ds := fun k hk => by
  obtain ⟨b, off, e, hB, hc⟩ := h k hk
  exact ⟨b, off, e, by omega, hc⟩

/-- A slice value v with the signatures ds, owned from block B on. -/
def OwnG (w : World) (B : Nat) (v : Value) (ds : List Sg) : Prop := w.ownsRow B 24 3 v ds.length (pg ds)
section
variable {w w' : World} {B B' : Nat} {v : Value} {ds : List Sg}
theorem OwnG.nil (w : World) (B : Nat) : OwnG w B (.slice none 0 0) [] := World.ownsRow_nil w B 24 3
theorem OwnG.below (h : OwnG w B v ds) (hb : Below w.heap.size w w') : OwnG w' B v ds :=
  World.ownsRow.kept (row := none) h ⟨hb.os, hb.tape, hb.output, hb.size, fun k hk _ => hb.block k hk⟩ (by cases v.ownBlock <;> simp)
theorem OwnG.mono (h : OwnG w B v ds) (hb : B' ≤ B) : OwnG w B' v ds := World.ownsRow.mono h hb
theorem OwnG.fr {S : Nat → Prop} (h : OwnG w B v ds) (hf : Fr S w w') (hn : ∀ g, v.ownBlock = some g → ¬ S g) : OwnG w' B v ds := by
  rcases h.2 with ⟨rfl, h2⟩ | ⟨g, cap, cur, rfl, hb, hg, rest⟩
  · exact ⟨h.1, .inl ⟨rfl, h2⟩⟩
  · exact ⟨h.1, .inr ⟨g, cap, cur, rfl, hb, (hf.2.2.2.2 g (Array.getElem?_eq_some_iff.1 hg).1 (hn g rfl)).trans hg, rest⟩⟩
theorem OwnG.at_ (h : OwnG w B v ds) : ∃ A c, v = .slice A ds.length c ∧ ds.length ≤ c ∧ c ≤ 9223372036854775807 ∧ GAt w.heap.size w A ds := by
  rcases h.2 with ⟨rfl, hn⟩ | ⟨g, cap, cur, rfl, hb, hg, hnc, hcm, hcs, htake⟩
  · have : ds = [] := List.eq_nil_of_length_eq_zero hn
    subst this
    exact ⟨none, 0, rfl, by simp, by omega, GAt.nil _ _ _⟩
  · refine ⟨_, cap, rfl, by omega, by unfold maxLen at hcm; omega, fun k hk => ⟨g, 0, rfl, (Array.getElem?_eq_some_iff.1 hg).1, ?_⟩⟩
    obtain ⟨f1, f2, f3⟩ := pg_get ds k hk
    have e : ds.getD k g0 = ds[k] := by rw [List.getD_eq_getElem?_getD, List.getElem?_eq_getElem hk]; rfl
    rw [e, Nat.zero_add, World.ownsRow.cellAt h (k * 3) (by omega), World.ownsRow.cellAt h (k * 3 + 1) (by omega), World.ownsRow.cellAt h (k * 3 + 2) (by omega), Nat.mul_comm]
    exact ⟨f1, f2, f3⟩
end
theorem sg_src {B : Nat} {w : World} {ad : Addr} {es : List Sg} (h : GAt B w (some ad) es) : ∀ j u, (pg es)[j]? = some u → w.cell? (ad.add j) = some u := fun j u hj => by
  have hlt := (List.getElem?_eq_some_iff.1 hj).1
  rw [pg_length] at hlt
  obtain ⟨b, off, e, _, hc, hd, he⟩ := h (j / 3) (by omega)
  injection e with e
  subst e
  obtain ⟨f1, f2, f3⟩ := pg_get es (j / 3) (by omega)
  have e2 : es.getD (j / 3) g0 = es[j / 3] := by rw [List.getD_eq_getElem?_getD, List.getElem?_eq_getElem (by omega)]; rfl
  rw [e2] at hc hd he
  rw [Go.WideShapes.add_plain]
  rcases (show j = 3 * (j / 3) ∨ j = 3 * (j / 3) + 1 ∨ j = 3 * (j / 3) + 2 by omega) with h1 | h1 | h1
  · rw [← h1, hj] at f1
    injection f1 with f1
    rw [f1, ← hc]
    congr 2
    omega
  · rw [← h1, hj] at f2
    injection f2 with f2
    rw [f2, ← hd]
    congr 2
    omega
  · rw [← h1, hj] at f3
    injection f3 with f3
    rw [f3, ← he]
    congr 2
    omega

theorem Try.infoSg : (Try.prog.info? 24).map (fun i => (i.zero, i.size, i.bytes)) = some (some (.agg #[.int .i64 0, .string ⟨#[]⟩, .int .i64 0]), 3, 32) := by kernel_rfl

theorem run_appG (w : World) (ty : TypeId) (B : Nat) (v : Value) (ds es : List Sg) (A : Option Addr) (m c : Nat) (hown : OwnG w B v ds) (hm : es.length = m) (hsrc : GAt w.heap.size w A es) (hb : ds.length + m ≤ 1000000) (hbase : B ≤ w.heap.size) :
    ∃ v' w', (Builtin.append_ #[43, 43] ty #[v, .slice A m c]).run Try.prog w = .ok v' w' ∧ OwnG w' B v' (ds ++ es) ∧ w.grownBy w' v.ownBlock ∧ (v'.ownBlock = v.ownBlock ∨ v'.ownBlock = some w.heap.size) := by
  obtain ⟨i0, hi, hz0, hz1, hz2⟩ := info_parts Try.infoSg
  subst hm
  have hpl := pg_length es
  cases A with
  | some ad =>
    obtain ⟨v', w', a1, a2, a3, _, a4⟩ := run_append_own_at (P := Try.prog) w B 43 ty 24 i0 (.agg #[.int .i64 0, .string ⟨#[]⟩, .int .i64 0]) 3 32 Try.underlying43 hi hz0 hz1 hz2 rfl (by decide) v ds.length (pg ds) hown ad es.length c (pg es) hpl (sg_src hsrc) (pg_oneCell es) (by unfold maxLen; omega) (by omega) hbase
    refine ⟨v', w', a1, ?_, a3, a4⟩
    unfold OwnG
    rw [List.length_append, pg_append]
    exact a2
  | none =>
    have he : es = [] := by
      cases es with
      | nil => rfl
      | cons d es => obtain ⟨b, off, e, _⟩ := hsrc 0 (by simp); cases e
    subst he
    refine ⟨v, w, ?_, by rw [List.append_nil]; exact hown, ⟨rfl, rfl, rfl, Nat.le_refl _, fun _ _ _ => rfl⟩, .inl rfl⟩
    rcases hown.2 with ⟨rfl, hn⟩ | ⟨g, cap, cur, rfl, _, _, hnc, _⟩
    · simp [Builtin.append_, run_underlying Try.underlying43, sizeOf, typeInfo, hi, Builtin.lenOf, Builtin.firstCells]
    · simp [Builtin.append_, run_underlying Try.underlying43, sizeOf, typeInfo, hi, Builtin.lenOf, Builtin.firstCells, loadCells, hnc, storeCells]
theorem appG_at {w : World} {ops : Array Oper} {rest : List Oper} {o : Oper} {a : Act} {Q : Exit → Act → World → Prop} (hgd : o.guard = none) (s x : Operand)
    (ho : o.op = .call { callee := .builtin .append, args := #[s, x], argTypes := #[43, 43] })
    (B : Nat) (v : Value) (ds es : List Sg) (A : Option Addr) (m c : Nat) (hs : a.eval s = v) (hown : OwnG w B v ds)
    (hx : a.eval x = .slice A m c) (hm : es.length = m) (hsrc : GAt w.heap.size w A es) (hb : ds.length + m ≤ 1000000) (hbase : B ≤ w.heap.size)
    (h : ∀ v' w', OwnG w' B v' (ds ++ es) → w.grownBy w' v.ownBlock → (v'.ownBlock = v.ownBlock ∨ v'.ownBlock = some w.heap.size) → wpList Try.prog ops Q rest (a.put o.dst v') w') : wpList Try.prog ops Q (o :: rest) a w := by
  obtain ⟨v', w', hr, h2, h3, h4⟩ := run_appG w o.type B v ds es A m c hown hm hsrc hb hbase
  refine wpList_plain hgd fun K' hK' => ?_
  unfold Oper.wp execOp
  simp only [ho, resolve, invoke, builtin, Sem.run_bind, Sem.run_pure, Result.andThen_ok, List.map_toArray, List.map_cons, List.map_nil, hs, hx, hr]
  exact hK' _ _ (h v' w' h2 h3 h4)
/-- A signature that was just laid. -/
theorem litG1 (w : World) (k : Int) (t : ByteArray) (m : Int) : GAt (w.alloc (.cells #[.int .i64 k, .string t, .int .i64 m] 24)).heap.size (w.alloc (.cells #[.int .i64 k, .string t, .int .i64 m] 24)) (some ⟨w.heap.size, 0, none⟩) [((k, t), m)] := fun j hj => by
  have : j = 0 := by simpa using hj
  subst this
  have k0 := Blk.new w 24 #[.int .i64 k, .string t, .int .i64 m]
  exact ⟨w.heap.size, 0, rfl, by simp, k0.cell 0, k0.cell 1, k0.cell 2⟩

/-! What a law keeps beside a ring: values whose blocks are none of the ring's. -/
def Out (S : Nat → Prop) (v : Value) : Prop := ∀ g, v.ownBlock = some g → ¬ S g
theorem Out.nil (S : Nat → Prop) : Out S (.slice none 0 0) := fun g hg => by cases hg
theorem Out.stepE {S S' : Nat → Prop} {w : World} {B : Nat} {v : Value} {es : List En} (h : Out S v) (ho : OwnE w B v es) (hs : ∀ b, S' b → S b ∨ w.heap.size ≤ b) : Out S' v := fun g hg => step_not (h g hg) (World.ownsRow.lt ho g hg).2 hs
theorem Out.stepG {S S' : Nat → Prop} {w : World} {B : Nat} {v : Value} {es : List Sg} (h : Out S v) (ho : OwnG w B v es) (hs : ∀ b, S' b → S b ∨ w.heap.size ≤ b) : Out S' v := fun g hg => step_not (h g hg) (World.ownsRow.lt ho g hg).2 hs
/-- A ring, behind what another value's own row took. -/
theorem Ring.grown {S : Nat → Prop} {w w' : World} {r : Nat} {es : List En} {v : Value} (h : Ring w S r es) (hg : w.grownBy w' v.ownBlock) (ho : Out S v) : Ring w' S r es :=
  h.fr (S := fun b => v.ownBlock = some b) ⟨hg.os, hg.tape, hg.output, hg.size, fun b hb hn => hg.block b hb (fun e => hn e.symm)⟩ (fun b hb hv => ho b hv hb)
theorem Out.grown {S : Nat → Prop} {w : World} {r : Nat} {es : List En} {v v' : Value} (ho : Out S v) (h : Ring w S r es) (hat : v'.ownBlock = v.ownBlock ∨ v'.ownBlock = some w.heap.size) : Out S v' := fun g hg hS => by
  rcases hat with e | e
  · exact ho g (e ▸ hg) hS
  · rw [hg] at e
    injection e with e
    have := h.lt g hS
    omega

end Go.Proofs.Ytmlhladdoalfdaa
