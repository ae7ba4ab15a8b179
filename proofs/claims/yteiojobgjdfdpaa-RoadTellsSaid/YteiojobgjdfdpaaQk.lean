/- Walks: group. -/
import Derived.Test.YteiojobgjdfdpaaQj
import Derived.Test.YteiojobgjdfdpaaCf
import Derived.Maps.AppendAt
namespace Go.Proofs.Yteiojobgjdfdpaa
open Go.RowKit

/-- An arc and where its lists lie. -/
structure Am where
  a : Arc
  A : Option Addr
  c : Nat
  A' : Option Addr
  c' : Nat
abbrev Am.v (x : Am) : Value := .agg #[.int .i64 x.a.f, .int .i64 x.a.t, .slice x.A x.a.lo.length x.c, .slice x.A' x.a.hi.length x.c']
abbrev anil : Am := ⟨⟨0, 0, [], []⟩, none, 0, none, 0⟩
abbrev am (l : List Am) (k : Nat) : Am := l.getD k anil
/-- The arcs of a slice at an address, in blocks below B. -/
def ArcsAt (B : Nat) (w : World) (A : Option Addr) (l : List Am) : Prop :=
  ∀ k, k < l.length → ∃ b off, A = some ⟨b, off, none⟩ ∧ b < B ∧ w.cell? ⟨b, off + k * 4, none⟩ = some (.int .i64 (am l k).a.f) ∧ w.cell? ⟨b, off + k * 4 + 1, none⟩ = some (.int .i64 (am l k).a.t) ∧
    w.cell? ⟨b, off + k * 4 + 2, none⟩ = some (.slice (am l k).A (am l k).a.lo.length (am l k).c) ∧ w.cell? ⟨b, off + k * 4 + 3, none⟩ = some (.slice (am l k).A' (am l k).a.hi.length (am l k).c') ∧ IntsAt B w (am l k).A (am l k).a.lo ∧ IntsAt B w (am l k).A' (am l k).a.hi
theorem ArcsAt.below {B : Nat} {w w' : World} {A : Option Addr} {l : List Am} (h : ArcsAt B w A l) (hb : Below B w w') : ArcsAt B w' A l := fun k hk => by
  obtain ⟨b, off, e, hB, h0, h1, h2, h3, h4, h5⟩ := h k hk
  exact ⟨b, off, e, hB, (hb.cell (p := ⟨b, off + k * 4, none⟩) hB).trans h0, (hb.cell (p := ⟨b, off + k * 4 + 1, none⟩) hB).trans h1, (hb.cell (p := ⟨b, off + k * 4 + 2, none⟩) hB).trans h2, (hb.cell (p := ⟨b, off + k * 4 + 3, none⟩) hB).trans h3, h4.below hb, h5.below hb⟩
theorem ArcsAt.more {B B' : Nat} {w : World} {A : Option Addr} {l : List Am} (h : ArcsAt B w A l) (hb : B ≤ B') : ArcsAt B' w A l := fun k hk => by
  obtain ⟨b, off, e, hB, h0, h1, h2, h3, h4, h5⟩ := h k hk
  exact ⟨b, off, e, by omega, h0, h1, h2, h3, h4.more hb, h5.more hb⟩
theorem ArcsAt.m {B : Nat} {w : World} {A : Option Addr} {l : List Am} (h : ArcsAt B w A l) (hB : B ≤ w.heap.size) {k : Nat} (hk : k < l.length) : ArcM w (am l k).a (am l k).A (am l k).A' := by
  obtain ⟨b, off, e, hB', h0, h1, h2, h3, h4, h5⟩ := h k hk
  exact ⟨h4.more hB, h5.more hB⟩

theorem Try.infoIs : (Try.prog.info? 32).map (fun i => (i.zero, i.size, i.bytes)) = some (some (.slice none 0 0), 1, 24) := by kernel_rfl
theorem run_mkG (n : Nat) (hm : n ≤ 100000) (w : World) : (Instr.makeSlice 57 (.int .i64 n) (.int .i64 n)).run Try.prog w = .ok (.slice (some ⟨w.heap.size, 0, none⟩) n n) (w.alloc (.cells (List.replicate n (Value.slice none 0 0)).toArray 32)) := by
  obtain ⟨i0, hi, hz0, hz1, hz2⟩ := info_parts Try.infoIs
  have hr := run_make (P := Try.prog) w 57 32 i0 _ Try.underlying57 hi hz0 .i64 .i64 (n : Int) (n : Int) (by omega) (by omega) (by rw [hz2]; omega) (by omega)
  simp only [Int.toNat_natCast] at hr
  have e : madeCells (Value.slice none 0 0).cells (n * i0.size) = (List.replicate n (Value.slice none 0 0)).toArray := by
    rw [hz1, Nat.mul_one]
    apply Array.ext'
    unfold madeCells
    simp only [Value.cells]
    apply List.ext_getElem
    · simp
    · intro i h1 h2
      simp [Nat.mod_one]
  rw [hr, e]

/-- n lists of ints that the call owns. -/
structure GrpV (w : World) (N gg n : Nat) (F : Nat → List Int) (vs : Nat → Value) : Prop where
  k : Blk w gg 32 ((List.range n).map vs).toArray
  o : ∀ u, u < n → OwnI w N (vs u) (F u)
  ne : ∀ u, u < n → ∀ u', u' < n → u ≠ u' → ∀ b, (vs u).ownBlock = some b → (vs u').ownBlock ≠ some b
def GrpAt (w : World) (N gg n : Nat) (F : Nat → List Int) : Prop := ∃ vs : Nat → Value, GrpV w N gg n F vs
theorem GrpAt.start (w : World) (N n : Nat) : GrpAt (w.alloc (.cells (List.replicate n (Value.slice none 0 0)).toArray 32)) N w.heap.size n (fun _ => []) := by
  refine ⟨fun _ => .slice none 0 0, ?_, fun u _ => OwnI.nil _ _, fun u _ u' _ _ b h => by simp [Value.ownBlock] at h⟩
  have e : (List.range n).map (fun _ => Value.slice none 0 0) = List.replicate n (Value.slice none 0 0) := by
    apply List.ext_getElem
    · simp
    · intro i h1 h2; simp
  rw [e]
  exact Blk.new _ _ _
theorem Blk.not_own {w : World} {gg N : Nat} {t : TypeId} {cs : Array Value} {v : Value} {l : List Int} (h : Blk w gg t cs) (ht : t ≠ 3) (ho : OwnI w N v l) : v.ownBlock ≠ some gg := by
  rcases ho.2 with ⟨rfl, hn⟩ | ⟨g, cap, cur, rfl, hb, hg, hnc, hcm, hcs, htake⟩
  · simp [Value.ownBlock]
  · intro e
    have e : some g = some gg := e
    injection e with e
    subst e
    have := (show w.heap[g]? = _ from h).symm.trans hg
    injection this with this
    injection this with _ this _
    exact ht this
section
variable {w w' : World} {N gg n : Nat} {F : Nat → List Int} {vs : Nat → Value}
theorem GrpV.below (h : GrpV w N gg n F vs) (hb : Below w.heap.size w w') : GrpV w' N gg n F vs := ⟨h.k.below hb h.k.lt, fun u hu => (h.o u hu).below hb, h.ne⟩
theorem GrpV.alloc (h : GrpV w N gg n F vs) (o : Obj) : GrpV (w.alloc o) N gg n F vs := h.below ((Below.refl _ _).alloc (Nat.le_refl _) _)
theorem GrpV.cell (h : GrpV w N gg n F vs) {u : Nat} (hu : u < n) : w.cell? ⟨gg, u, none⟩ = some (vs u) := by
  rw [h.k.cell, List.getElem?_toArray, List.getElem?_map, List.getElem?_range hu]; rfl
theorem GrpV.own (h : GrpV w N gg n F vs) {u : Nat} (hu : u < n) : (vs u).ownBlock ≠ some gg := h.k.not_own (by decide) (h.o u hu)
theorem GrpV.grown (h : GrpV w N gg n F vs) {u : Nat} (hu : u < n) (hg : w.grownBy w' (vs u).ownBlock) : Blk w' gg 32 ((List.range n).map vs).toArray :=
  (hg.block gg h.k.lt (fun e => h.own hu e.symm)).trans h.k
theorem GrpV.app (h : GrpV w N gg n F vs) {u : Nat} (hu : u < n) {v' : Value} {x : Int} (ho : OwnI w' N v' (F u ++ [x])) (hg : w.grownBy w' (vs u).ownBlock) (hat : v'.ownBlock = (vs u).ownBlock ∨ v'.ownBlock = some w.heap.size) :
    GrpAt (w'.setCell ⟨gg, u, none⟩ v') N gg n (fun k => if k = u then F u ++ [x] else F k) := by
  have hb5 := h.grown hu hg
  refine ⟨fun k => if k = u then v' else vs k, ?_, fun k hk => ?_, fun k hk k' hk' hne b hb => ?_⟩
  · have := hb5.set_ u v'
    have e : ((List.range n).map vs).toArray.setIfInBounds u v' = ((List.range n).map (fun k => if k = u then v' else vs k)).toArray := by
      apply Array.ext'
      simp only [List.setIfInBounds_toArray]
      apply List.ext_getElem
      · simp
      · intro i i1 i2
        rw [List.getElem_set]
        by_cases e : u = i
        · subst e; simp
        · rw [if_neg e]; simp; exact fun h => absurd h.symm e
    rw [e] at this
    exact this
  · by_cases e : k = u
    · subst e
      simp only [if_pos]
      have hn := hb5.not_own (by decide) ho
      exact World.ownsRow.kept (row := some gg) ho ⟨rfl, rfl, rfl, by simp, fun k hk hn => Below.heap_setCell w' _ v' k (fun e => hn (by rw [e]))⟩ (.inr hn)
    · simp only [if_neg e]
      have h5 : OwnI w' N (vs k) (F k) := World.ownsRow.kept (row := (vs u).ownBlock) (h.o k hk) hg (by
        cases ho' : (vs k).ownBlock with
        | none => exact .inl rfl
        | some g => exact .inr (fun e' => h.ne k hk u hu e g ho' e'.symm))
      have hn := hb5.not_own (by decide) h5
      exact World.ownsRow.kept (row := some gg) h5 ⟨rfl, rfl, rfl, by simp, fun k hk hn => Below.heap_setCell w' _ v' k (fun e => hn (by rw [e]))⟩ (.inr hn)
  · have key : ∀ k, k < n → k ≠ u → ∀ b, v'.ownBlock = some b → (vs k).ownBlock ≠ some b := fun k hk hne b hb e => by
      rcases hat with hat | hat
      · exact h.ne k hk u hu hne b e (hat ▸ hb)
      · rw [hat] at hb
        injection hb with hb
        have := ((h.o k hk).own_lt e.symm).2
        omega
    by_cases e : k = u
    · subst e
      simp only [if_pos] at hb
      simp only [if_neg (fun e : k' = k => hne e.symm)]
      exact key k' hk' (fun e => hne e.symm) b hb
    · simp only [if_neg e] at hb
      by_cases e' : k' = u
      · subst e'
        simp only [if_pos]
        exact fun h => key k hk e b h hb
      · simp only [if_neg e']
        exact h.ne k hk k' hk' hne b hb
end
theorem step_appI {w : World} {ops : Array Oper} {o : Oper} {a : Act} {K : Act → World → Prop} {Q : Exit → Act → World → Prop} {E : Prop} (hgd : o.guard = none) (s x : Operand)
    (ho : o.op = .call { callee := .builtin .append, args := #[s, x], argTypes := #[32, 32] })
    (B : Nat) (v : Value) (l : List Int) (c : Int) (g0 : Nat) (hs : a.eval s = v) (hown : OwnI w B v l) (hx : a.eval x = .slice (some ⟨g0, 0, none⟩) 1 1) (h0 : w.cell? ⟨g0, 0, none⟩ = some (.int .i64 c)) (hl : l.length ≤ 1000000) (hB : B ≤ w.heap.size)
    (h : ∀ v' w', OwnI w' B v' (l ++ [c]) → w.grownBy w' v.ownBlock → (v'.ownBlock = v.ownBlock ∨ v'.ownBlock = some w.heap.size) → K (a.put o.dst v') w') :
    if Region.wanted o (yielded ops a.tmps) = true then Oper.wp Try.prog o a w K Q else E := by
  have hw : Region.wanted o (yielded ops a.tmps) = true := by simp [Region.wanted, hgd]
  rw [if_pos hw]
  obtain ⟨i0, hi, hz0, hz1, hz2⟩ := info_parts Try.info3
  obtain ⟨v', w', a1, a2, a3, _, a4⟩ := run_append_own_at (P := Try.prog) w B 32 o.type 3 i0 (.int .i64 0) 1 8 Try.underlying32 hi hz0 hz1 hz2 rfl (by decide) v l.length (l.map (Value.int .i64)) hown ⟨g0, 0, none⟩ 1 1 [.int .i64 c] rfl
    (fun j u hj => by match j, hj with | 0, hj => simp at hj; subst hj; exact h0) (fun u hu => by simp at hu; subst hu; rfl) (by unfold maxLen; omega) (by omega) hB
  unfold Oper.wp execOp
  simp only [ho, resolve, invoke, builtin, Sem.run_bind, Sem.run_pure, Result.andThen_ok, List.map_toArray, List.map_cons, List.map_nil, hs, hx, a1]
  refine h v' w' ?_ a3 a4
  unfold OwnI
  rw [List.length_append, List.map_append]
  exact a2
/-- Lists that are read. -/
def GrpR (w : World) (B gg n : Nat) (F : Nat → List Int) : Prop := gg < B ∧ ∀ u, u < n → ∃ A c, w.cell? ⟨gg, u, none⟩ = some (.slice A (F u).length c) ∧ IntsAt B w A (F u)
theorem GrpR.below {w w' : World} {B gg n : Nat} {F : Nat → List Int} (h : GrpR w B gg n F) (hb : Below B w w') : GrpR w' B gg n F :=
  ⟨h.1, fun u hu => by obtain ⟨A, c, h1, h2⟩ := h.2 u hu; exact ⟨A, c, (hb.cell (p := ⟨gg, u, none⟩) h.1).trans h1, h2.below hb⟩⟩
theorem GrpAt.read {w : World} {N gg n : Nat} {F : Nat → List Int} (h : GrpAt w N gg n F) : GrpR w w.heap.size gg n F := by
  obtain ⟨vs, h⟩ := h
  refine ⟨h.k.lt, fun u hu => ?_⟩
  obtain ⟨A, c, e, hI⟩ := (h.o u hu).ints
  exact ⟨A, c, (h.cell hu).trans (by rw [e]), hI⟩

end Go.Proofs.Yteiojobgjdfdpaa
