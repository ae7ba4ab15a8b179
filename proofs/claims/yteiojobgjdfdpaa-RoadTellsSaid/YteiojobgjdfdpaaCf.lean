/- Walks: the law's busy. -/
import Derived.Test.YteiojobgjdfdpaaCc
import Derived.Maps.AppendAt
namespace Go.Proofs.Yteiojobgjdfdpaa
open Go.RowKit

theorem OwnI.own_lt {w : World} {N g : Nat} {v : Value} {l : List Int} (ho : OwnI w N v l) (h : some g = v.ownBlock) : N ≤ g ∧ g < w.heap.size := World.ownsRow.lt ho g h.symm
theorem OwnI.put {w : World} {N : Nat} {v : Value} {l : List Int} (h : OwnI w N v l) {G o : Nat} (u : Value) (hG : G < N) : OwnI (w.setCell ⟨G, o, none⟩ u) N v l :=
  World.ownsRow.kept (row := some G) h ⟨rfl, rfl, rfl, by simp, fun k hk hn => Below.heap_setCell w _ u k (fun e => hn (by rw [e]))⟩ (by
    cases ho : v.ownBlock with
    | none => exact .inl rfl
    | some g =>
      refine .inr (fun e => ?_)
      injection e with e
      have := (h.own_lt ho.symm).1
      omega)
/-- append of one int, with where the new slice lies. -/
theorem appIg {w : World} {ops : Array Oper} {rest : List Oper} {o : Oper} {a : Act} {Q : Exit → Act → World → Prop} (hgd : o.guard = none) (s x : Operand)
    (ho : o.op = .call { callee := .builtin .append, args := #[s, x], argTypes := #[32, 32] })
    (B : Nat) (v : Value) (l : List Int) (c : Int) (hs : a.eval s = v) (hown : OwnI w B v l)
    (hx : a.eval x = .slice (some ⟨w.heap.size, 0, none⟩) 1 1) (hb : l.length ≤ 1000000) (hbase : B ≤ w.heap.size)
    (h : ∀ v' w', OwnI w' B v' (l ++ [c]) → (w.alloc (.cells #[.int .i64 c] 3)).grownBy w' v.ownBlock → (v'.ownBlock = v.ownBlock ∨ v'.ownBlock = some (w.heap.size + 1)) → wpList Try.prog ops Q rest (a.put o.dst v') w') : wpList Try.prog ops Q (o :: rest) a (w.alloc (.cells #[.int .i64 c] 3)) := by
  obtain ⟨i0, hi, hz0, hz1, hz2⟩ := info_parts Try.info3
  obtain ⟨v', w', a1, a2, a3, _, a4⟩ := run_append_own_at (P := Try.prog) (w.alloc (.cells #[.int .i64 c] 3)) B 32 o.type 3 i0 (.int .i64 0) 1 8 Try.underlying32 hi hz0 hz1 hz2 rfl (by decide) v l.length (l.map (Value.int .i64)) (World.ownsRow.alloc hown _) ⟨w.heap.size, 0, none⟩ 1 1 [.int .i64 c] rfl
    (fun j u hj => by match j, hj with | 0, hj => simp at hj; subst hj; simp [Addr.add]) (fun u hu => by simp at hu; subst hu; rfl) (by unfold maxLen; omega) (by omega) (by simp; omega)
  refine wpList_plain hgd fun K' hK' => ?_
  unfold Oper.wp execOp
  simp only [ho, resolve, invoke, builtin, Sem.run_bind, Sem.run_pure, Result.andThen_ok, List.map_toArray, List.map_cons, List.map_nil, hs, hx, a1]
  refine hK' _ _ (h v' w' ?_ a3 (by simpa using a4))
  unfold OwnI
  rw [List.length_append, List.map_append]
  exact a2

/-- One of two lists is appended to. -/
theorem two_app {w w5 : World} {N : Nat} {x x' y : Value} {lx ly : List Int} {c : Int} (hN : N ≤ w.heap.size) (hx : OwnI w N x lx) (hy : OwnI w N y ly) (hne : ∀ b, x.ownBlock = some b → y.ownBlock = some b → False)
    (hg : (w.alloc (.cells #[.int .i64 c] 3)).grownBy w5 x.ownBlock) (hat : x'.ownBlock = x.ownBlock ∨ x'.ownBlock = some (w.heap.size + 1)) :
    OwnI w5 N y ly ∧ (∀ b, x'.ownBlock = some b → y.ownBlock = some b → False) ∧ Below N w w5 := by
  have hA : Below N w (w.alloc (.cells #[.int .i64 c] 3)) := (Below.refl _ _).alloc hN _
  have hA' : Below w.heap.size w (w.alloc (.cells #[.int .i64 c] 3)) := (Below.refl _ _).alloc (Nat.le_refl _) _
  refine ⟨World.ownsRow.kept (row := x.ownBlock) (hy.below hA') hg ?_, ?_, hA.grown hg (by simp; omega) (fun k hk => (World.ownsRow.lt hx k hk).1)⟩
  · cases hyo : y.ownBlock with
    | none => exact .inl rfl
    | some g => exact .inr (fun e => hne g e.symm hyo)
  · intro b h1 h2
    rcases hat with hat | hat
    · exact hne b (hat ▸ h1) h2
    · rw [hat] at h1
      injection h1 with h1
      have := (hy.own_lt h2.symm).2
      omega

structure BzI (w wr : World) (G N : Nat) (v1 v2 : Value) (l1 l2 : List Int) : Prop where
  bl : Below w.heap.size w wr
  k0 : Blk wr w.heap.size 39 #[.int .i64 0, .int .i64 0, .slice none 0 0, .slice none 0 0]
  k : Blk wr G 39 #[.int .i64 0, .int .i64 0, v1, v2]
  o1 : OwnI wr N v1 l1
  o2 : OwnI wr N v2 l2
  ne : ∀ b, v1.ownBlock = some b → v2.ownBlock = some b → False
  g : w.heap.size < G
  gN : G < N
  N : N ≤ wr.heap.size

theorem BzI.low {w wr w5 : World} {G N : Nat} {v1 v1' v2 : Value} {l1 l2 : List Int} {c : Int} (h : BzI w wr G N v1 v2 l1 l2) (hown : OwnI w5 N v1' (l1 ++ [c])) (hg : (wr.alloc (.cells #[.int .i64 c] 3)).grownBy w5 v1.ownBlock) (hat : v1'.ownBlock = v1.ownBlock ∨ v1'.ownBlock = some (wr.heap.size + 1)) :
    G < w5.heap.size ∧ w5.frozen? ⟨G, 2, none⟩ = false ∧ (∃ u, w5.cell? ⟨G, 2, none⟩ = some u) ∧ BzI w (w5.setCell ⟨G, 2, none⟩ v1') G N v1' v2 (l1 ++ [c]) l2 := by
  obtain ⟨a1, a2, a3⟩ := two_app h.N h.o1 h.o2 h.ne hg hat
  have k := h.k.below a3 h.gN
  have k0 := h.k0.below a3 (by have := h.g; have := h.gN; omega)
  have k' := k.set_ 2 v1'
  have hf := k.cell 2
  simp at k' hf
  refine ⟨k.lt, k.frozen 2, ⟨_, hf⟩, ⟨?_, k0.far (by have := h.g; simp; omega) _, k', hown.put _ h.gN, a1.put _ h.gN, a2, h.g, h.gN, by have := a3.size; have := h.N; simp; omega⟩⟩
  have hb : Below w.heap.size w w5 := h.bl.trans (a3.mono (by have := h.g; have := h.gN; omega))
  exact hb.setCell (by have := h.g; simp; omega) _
theorem BzI.high {w wr w5 : World} {G N : Nat} {v1 v2' v2 : Value} {l1 l2 : List Int} {c : Int} (h : BzI w wr G N v1 v2 l1 l2) (hown : OwnI w5 N v2' (l2 ++ [c])) (hg : (wr.alloc (.cells #[.int .i64 c] 3)).grownBy w5 v2.ownBlock) (hat : v2'.ownBlock = v2.ownBlock ∨ v2'.ownBlock = some (wr.heap.size + 1)) :
    G < w5.heap.size ∧ w5.frozen? ⟨G, 3, none⟩ = false ∧ (∃ u, w5.cell? ⟨G, 3, none⟩ = some u) ∧ BzI w (w5.setCell ⟨G, 3, none⟩ v2') G N v1 v2' l1 (l2 ++ [c]) := by
  obtain ⟨a1, a2, a3⟩ := two_app h.N h.o2 h.o1 (fun b h1 h2 => h.ne b h2 h1) hg hat
  have k := h.k.below a3 h.gN
  have k0 := h.k0.below a3 (by have := h.g; have := h.gN; omega)
  have k' := k.set_ 3 v2'
  have hf := k.cell 3
  simp at k' hf
  refine ⟨k.lt, k.frozen 3, ⟨_, hf⟩, ⟨?_, k0.far (by have := h.g; simp; omega) _, k', a1.put _ h.gN, hown.put _ h.gN, fun b h1 h2 => a2 b h2 h1, h.g, h.gN, by have := a3.size; have := h.N; simp; omega⟩⟩
  have hb : Below w.heap.size w w5 := h.bl.trans (a3.mono (by have := h.g; have := h.gN; omega))
  exact hb.setCell (by have := h.g; simp; omega) _

def busyA : Arc := ⟨0, 0, List.replicate 24 10, (List.replicate 24 20).set 8 50⟩

end Go.Proofs.Yteiojobgjdfdpaa
