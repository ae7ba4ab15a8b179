/- append of a list of 24 numbers onto an empty one, in a region that draws its order. -/
import Derived.Test.YtbojonafadhciaaCk
import Derived.Test.YtbojonafadhciaaCl
import Derived.Deep.AppendSrc
namespace Go.Proofs.Ytbojonafadhciaa
open Go.RowKit

theorem hold0 (w : World) (X : Option Addr) : (Builtin.firstCells 1 0 (.slice X 0 0)).run Try.prog w = .ok (([] : List Value).toArray) w := by
  cases X with
  | none => exact run_firstCells_none w 1 0 0 0
  | some ad => exact run_firstCells_some w 1 0 ad 0 0 [] (by simp) (fun j u h => by simp at h)
theorem run_app0 (w : World) (ty : TypeId) (X : Option Addr) (es : List Int) (ad : Addr) (c : Nat) (hm : es.length = 24) (hsrc : IntsAt w.heap.size w (some ad) es) :
    ∃ c' w', (Builtin.append_ #[22, 22] ty #[.slice X 0 0, .slice (some ad) 24 c]).run Try.prog w = .ok (.slice (some ⟨w.heap.size, 0, none⟩) 24 c') w' ∧ OwnI w' w.heap.size (.slice (some ⟨w.heap.size, 0, none⟩) 24 c') es ∧ Below w.heap.size w w' := by
  obtain ⟨i0, hi, hz0, hz1, hz2⟩ := info_parts Try.info3
  have hsp : ad.spot = none := by
    obtain ⟨b, off, e, _⟩ := hsrc 0 (by omega)
    injection e with e
    rw [e]
  have hn : ∀ j u, (es.map (Value.int .i64))[j]? = some u → w.cell? (ad.add j) = some u := fun j u h => by
    rw [List.getElem?_map] at h
    cases hj : es[j]? with
    | none => rw [hj] at h; cases h
    | some z =>
      rw [hj] at h
      injection h with h
      obtain ⟨b, off, e, _, hc⟩ := hsrc j (List.getElem?_eq_some_iff.1 hj).1
      injection e with e
      subst e
      rw [Go.WideShapes.add_plain, hc, List.getD_eq_getElem?_getD, hj]
      rw [← h]
      rfl
  have h1 : ∀ u ∈ es.map (Value.int .i64), u.oneCell' = true := fun u hu => by
    obtain ⟨z, _, rfl⟩ := List.mem_map.1 hu
    rfl
  obtain ⟨v', w', a1, a2, a3, _, a4⟩ := run_append_own_at (P := Try.prog) w w.heap.size 22 ty 3 i0 (.int .i64 0) 1 8 Try.underlying22 hi hz0 hz1 hz2 rfl (by decide) (.slice none 0 0) 0 [] (World.ownsRow_nil w w.heap.size 3 1) ad 24 c (es.map (Value.int .i64)) (by rw [List.length_map, hm])
    hn h1 (by unfold maxLen; omega) (by omega) (Nat.le_refl _)
  have hS := Src.ofSlice w (size := i0.size) Try.underlying22 ad 24 c (es.map (Value.int .i64)) (by rw [List.length_map, hm, hz1]) hn h1
  have hfit : Builtin.nextslicecap (0 + 24) 0 * i0.bytes ≤ 281474976710656 := by rw [hz2]; decide
  have r1 := run_append_grow_src w 22 22 ty 3 i0 (.int .i64 0) Try.underlying22 hi hz0 X 0 0 [] (by rw [hz1]; exact hold0 _ _) (.slice (some ad) 24 c) 24 _ hS (by omega) (by omega) hfit
  have r2 := run_append_grow_src w 22 22 ty 3 i0 (.int .i64 0) Try.underlying22 hi hz0 none 0 0 [] (by rw [hz1]; exact hold0 _ _) (.slice (some ad) 24 c) 24 _ hS (by omega) (by omega) hfit
  rw [r2] at a1
  injection a1 with e1 e2
  subst e1; subst e2
  refine ⟨grownCap w (0 + 24) 0 3, _, r1, ?_, (Below.refl _ _).grown a3 (Nat.le_refl _) (fun k hk => by simp [Value.ownBlock] at hk)⟩
  unfold OwnI
  rw [hm]
  simpa using a2

theorem step_app0 {w : World} {ops : Array Oper} {o : Oper} {a : Act} {K : Act → World → Prop} {Q : Exit → Act → World → Prop} {E : Prop} (hgd : o.guard = none) (s x : Operand)
    (ho : o.op = .call { callee := .builtin .append, args := #[s, x], argTypes := #[22, 22] })
    (X : Option Addr) (es : List Int) (ad : Addr) (c : Nat) (hs : a.eval s = .slice X 0 0) (hx : a.eval x = .slice (some ad) 24 c) (hm : es.length = 24) (hsrc : IntsAt w.heap.size w (some ad) es)
    (h : ∀ c' w', OwnI w' w.heap.size (.slice (some ⟨w.heap.size, 0, none⟩) 24 c') es → Below w.heap.size w w' → K (a.put o.dst (.slice (some ⟨w.heap.size, 0, none⟩) 24 c')) w') :
    if Region.wanted o (yielded ops a.tmps) = true then Oper.wp Try.prog o a w K Q else E := by
  have hw : Region.wanted o (yielded ops a.tmps) = true := by simp [Region.wanted, hgd]
  rw [if_pos hw]
  obtain ⟨c', w', hr, h2, h3⟩ := run_app0 w o.type X es ad c hm hsrc
  unfold Oper.wp execOp
  simp only [ho, resolve, invoke, builtin, Sem.run_bind, Sem.run_pure, Result.andThen_ok, List.map_toArray, List.map_cons, List.map_nil, hs, hx, hr]
  exact h c' w' h2 h3

end Go.Proofs.Ytbojonafadhciaa
