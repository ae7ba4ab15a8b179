/- Walk of reduced. (Printed by tools/mkMa.py out of Lz.) The rows of the reference's elimination; the elimination with its free columns, plain; append of a number, with its block. Walk of Eliminated. The reference's Same, FewFracs, Few. Walk of the reference's Right of rows. The reference's Solve, Rank. -/
import Derived.Test.YtlbjaimgoiimgaaXav
import Derived.Test.YtlbjaimgoiimgaaXau
import Derived.Test.YtlbjaimgoiimgaaXaj
import Derived.Test.YtlbjaimgoiimgaaXao

namespace Go.Proofs.Ytlbjaimgoiimgaa
open Go.RowKit

theorem lboxes4m (w : World) (a b c : Array Value) (d : Array Value) (t u : TypeId) : ∃ W, (((w.alloc (.cells a t)).alloc (.cells b t)).alloc (.cells c t)).alloc (.cells d u) = W ∧ Below w.heap.size w W ∧
    Blk W w.heap.size t a ∧ Blk W (w.heap.size + 1) t b ∧ Blk W (w.heap.size + 1 + 1) t c ∧ Blk W (w.heap.size + 1 + 1 + 1) u d := by
  have h1 : Below w.heap.size w (w.alloc (.cells a t)) := (Below.refl _ _).alloc (Nat.le_refl _) _
  have h2 := h1.alloc h1.size (.cells b t)
  have h3 := h2.alloc h2.size (.cells c t)
  have h4 := h3.alloc h3.size (.cells d u)
  have k1 := Blk.new w t a
  have k2 := Blk.new (w.alloc (.cells a t)) t b
  have k3 := Blk.new ((w.alloc (.cells a t)).alloc (.cells b t)) t c
  have k4 := Blk.new (((w.alloc (.cells a t)).alloc (.cells b t)).alloc (.cells c t)) u d
  simp only [World.size_alloc] at k2 k3 k4
  exact ⟨_, rfl, h4, ((k1.alloc _).alloc _).alloc _, (k2.alloc _).alloc _, k3.alloc _, k4⟩
theorem subF_no {y x a : Rat} {zs : List Rat} {i : Nat} (h : zs.getD i 0 = a) (hn : ¬ (okMul y a ∧ okSub x (y * a))) : subF y zs i x = none := by
  by_cases hm : okMul y a
  · exact subF_sub h hm (fun hs => hn ⟨hm, hs⟩)
  · exact subF_mul h hm

end Go.Proofs.Ytlbjaimgoiimgaa

namespace Go.Proofs.Ytlbjaimgoiimgaa
open Go.RowKit

/-- The elimination from the column c on, m columns, r pivots, free columns fr: the free columns, and the lines. -/
def runE (first : Bool) : Nat → Nat → Nat → List Int → List (List Rat) → Option (List Int × List (List Rat))
  | 0, _, _, fr, X => some (fr, X)
  | m + 1, c, r, fr, X => match elimS X r c with
    | none => none
    | some (false, Y) => if first then some (fr ++ [(c : Int)], Y) else runE first m (c + 1) r (fr ++ [(c : Int)]) Y
    | some (true, Y) => runE first m (c + 1) (r + 1) fr Y
theorem runE_fail {first : Bool} {m c r : Nat} {fr : List Int} {X : List (List Rat)} (h : elimS X r c = none) : runE first (m + 1) c r fr X = none := by rw [runE, h]
theorem runE_stop {m c r : Nat} {fr : List Int} {X Y : List (List Rat)} (h : elimS X r c = some (false, Y)) : runE true (m + 1) c r fr X = some (fr ++ [(c : Int)], Y) := by rw [runE, h]; rfl
theorem runE_free {m c r : Nat} {fr : List Int} {X Y : List (List Rat)} (h : elimS X r c = some (false, Y)) : runE false (m + 1) c r fr X = runE false m (c + 1) r (fr ++ [(c : Int)]) Y := by rw [runE, h]; rfl
theorem runE_on {first : Bool} {m c r : Nat} {fr : List Int} {X Y : List (List Rat)} (h : elimS X r c = some (true, Y)) : runE first (m + 1) c r fr X = runE first m (c + 1) (r + 1) fr Y := by rw [runE, h]
/-- It is the same elimination as the module's. -/
theorem runE_true (m c : Nat) (X : List (List Rat)) : runE true m c c [] X = (runFree m c X).map fun p => (if p.1 < c + m then [(p.1 : Int)] else [], p.2) := by
  induction m generalizing c X with
  | zero => simp [runE, runFree]
  | succ m ih =>
    rw [runE, runFree]
    cases h : elimS X c c with
    | none => rfl
    | some p =>
      obtain ⟨b, Y⟩ := p
      cases b with
      | false => simp
      | true => simp only [ih, show c + 1 + m = c + (m + 1) by omega]
theorem runE_false (m c r : Nat) (fr : List Int) (X : List (List Rat)) : (runE false m c r fr X).map (fun p => (p.1.length : Int)) = (runRank m c r X).map fun q => (fr.length : Int) + m - ((q : Int) - r) := by
  induction m generalizing c r fr X with
  | zero => simp [runE, runRank]
  | succ m ih =>
    cases h : elimS X r c with
    | none => rw [runE_fail h, runRank_fail h]; rfl
    | some p =>
      obtain ⟨b, Y⟩ := p
      cases b with
      | false =>
        rw [runE_free h, runRank_on h, ih]
        cases hq : runRank m (c + 1) r Y with
        | none => simp [hq]
        | some q => simp [hq]; omega
      | true =>
        rw [runE_on h, runRank_on h, ih]
        cases hq : runRank m (c + 1) (r + 1) Y with
        | none => simp [hq]
        | some q => simp [hq]; omega

/-- Five cells are stored. -/
theorem CellsR.store {w : World} {g : Nat} {cur : Array Value} {rs : List Rw} (hb : Blk w g 45 cur) (hc : CellsR cur rs) {k : Nat} (hk : k < rs.length) (r : Rw) :
    ∃ V cur', V = ((((w.setCell ⟨g, k * 5, none⟩ (.slice r.A r.n r.c)).setCell ⟨g, k * 5 + 1, none⟩ (.int .i64 r.f.s)).setCell ⟨g, k * 5 + 2, none⟩ (.slice r.f.A r.f.n r.f.c)).setCell ⟨g, k * 5 + 3, none⟩ (.int .i64 r.f.s')).setCell ⟨g, k * 5 + 4, none⟩ (.slice r.f.A' r.f.n' r.f.c') ∧
      Blk V g 45 cur' ∧ CellsR cur' (rs.set k r) ∧ Fr (· = g) w V := by
  have hb5 := ((((hb.set_ (k * 5) (.slice r.A r.n r.c)).set_ (k * 5 + 1) (.int .i64 r.f.s)).set_ (k * 5 + 2) (.slice r.f.A r.f.n r.f.c)).set_ (k * 5 + 3) (.int .i64 r.f.s')).set_ (k * 5 + 4) (.slice r.f.A' r.f.n' r.f.c')
  have hsz : k * 5 + 4 < cur.size := by
    obtain ⟨_, _, _, _, h4⟩ := hc k hk
    exact (Array.getElem?_eq_some_iff.1 h4).1
  refine ⟨_, _, rfl, hb5, fun j hj => ?_, ((((fr_set g _ w _).tr (fr_set g _ _ _)).tr (fr_set g _ _ _)).tr (fr_set g _ _ _)).tr (fr_set g _ _ _)⟩
  rw [List.length_set] at hj
  obtain ⟨h0, h1, h2, h3, h4⟩ := hc j hj
  simp only at h0 h1 h2 h3 h4
  by_cases hjk : j = k
  · subst hjk
    rw [getD_set_self hj]
    unfold Five
    simp only [Array.getElem?_setIfInBounds, Array.size_setIfInBounds]
    refine ⟨?_, ?_, ?_, ?_, ?_⟩ <;> simp <;> omega
  · rw [getD_set_ne (Ne.symm hjk)]
    unfold Five
    simp only [Array.getElem?_setIfInBounds, Array.size_setIfInBounds]
    rw [if_neg (by omega), if_neg (by omega), if_neg (by omega), if_neg (by omega), if_neg (by omega), if_neg (by omega), if_neg (by omega), if_neg (by omega), if_neg (by omega), if_neg (by omega),
      if_neg (by omega), if_neg (by omega), if_neg (by omega), if_neg (by omega), if_neg (by omega), if_neg (by omega), if_neg (by omega), if_neg (by omega), if_neg (by omega), if_neg (by omega),
      if_neg (by omega), if_neg (by omega), if_neg (by omega), if_neg (by omega), if_neg (by omega)]
    exact ⟨h0, h1, h2, h3, h4⟩

/-- What the elimination may write: the rows' block, and the list of the free columns. -/
def TE (M : Nat) (F : Option Nat) (b : Nat) : Prop := b = M ∨ some b = F
/-- N rows in the block M. -/
structure RowsM (w : World) (M N : Nat) (F : Option Nat) (rs : List Rw) (X : List (List Rat)) : Prop where
  blk : ∃ cur, Blk w M 45 cur ∧ CellsR cur rs
  len : rs.length = N
  xl : X.length = N
  row : ∀ k, k < N → RowIs (TE M F) w N (rs.getD k rwnil) (X.getD k [])
section
variable {w w' : World} {M N : Nat} {F F' : Option Nat} {rs : List Rw} {X : List (List Rat)}
theorem RowsM.below (h : RowsM w M N F rs X) (hb : Below w.heap.size w w') : RowsM w' M N F rs X := by
  obtain ⟨cur, hB, hC⟩ := h.blk
  exact ⟨⟨cur, hB.below hb hB.lt, hC⟩, h.len, h.xl, fun k hk => (h.row k hk).below hb⟩
theorem RowsM.lt (h : RowsM w M N F rs X) : M < w.heap.size := by
  obtain ⟨cur, hB, hC⟩ := h.blk
  exact hB.lt
theorem RowsM.cells (h : RowsM w M N F rs X) {k : Nat} (hk : k < N) : Five (fun i => w.cell? ⟨M, i, none⟩) (k * 5) (rs.getD k rwnil) := by
  obtain ⟨cur, hB, hC⟩ := h.blk
  obtain ⟨h0, h1, h2, h3, h4⟩ := hC k (by rw [h.len]; exact hk)
  exact ⟨(hB.cell _).trans h0, (hB.cell _).trans h1, (hB.cell _).trans h2, (hB.cell _).trans h3, (hB.cell _).trans h4⟩
theorem RowsM.frozen (h : RowsM w M N F rs X) (i : Nat) : w.frozen? ⟨M, i, none⟩ = false := by
  obtain ⟨cur, hB, hC⟩ := h.blk
  exact hB.frozen i
/-- A row is stored. -/
theorem RowsM.put (h : RowsM w M N F rs X) {k : Nat} (hk : k < N) {r : Rw} {x : List Rat} (hr : RowIs (TE M F) w N r x) :
    ∃ V, V = ((((w.setCell ⟨M, k * 5, none⟩ (.slice r.A r.n r.c)).setCell ⟨M, k * 5 + 1, none⟩ (.int .i64 r.f.s)).setCell ⟨M, k * 5 + 2, none⟩ (.slice r.f.A r.f.n r.f.c)).setCell ⟨M, k * 5 + 3, none⟩ (.int .i64 r.f.s')).setCell ⟨M, k * 5 + 4, none⟩ (.slice r.f.A' r.f.n' r.f.c') ∧
      RowsM V M N F (rs.set k r) (X.set k x) ∧ Fr (· = M) w V := by
  obtain ⟨cur, hB, hC⟩ := h.blk
  obtain ⟨V, cur', hV, hB', hC', hf⟩ := CellsR.store hB hC (k := k) (by rw [h.len]; exact hk) r
  have hT : Fr (TE M F) w V := hf.more (fun b hb => .inl hb)
  refine ⟨V, hV, ⟨⟨cur', hB', hC'⟩, by rw [List.length_set]; exact h.len, by rw [List.length_set]; exact h.xl, fun j hj => ?_⟩, hf⟩
  by_cases hjk : j = k
  · subst hjk
    rw [getD_set_self (by rw [h.len]; exact hj), getD_set_self (by rw [h.xl]; exact hj)]
    exact hr.fr hT
  · rw [getD_set_ne (Ne.symm hjk), getD_set_ne (Ne.symm hjk)]
    exact (h.row j hj).fr hT
end

/-- append of a number, with where the new slice lies. -/
theorem appIg {w : World} {ops : Array Oper} {rest : List Oper} {o : Oper} {a : Act} {Q : Exit → Act → World → Prop} (hgd : o.guard = none) (s x : Operand)
    (ho : o.op = .call { callee := .builtin .append, args := #[s, x], argTypes := #[36, 36] })
    (B : Nat) (v : Value) (l : List Int) (c : Int) (hs : a.eval s = v) (hown : OwnI w B v l)
    (hx : a.eval x = .slice (some ⟨w.heap.size, 0, none⟩) 1 1) (hb : l.length ≤ 1000000) (hbase : B ≤ w.heap.size)
    (h : ∀ v' w', OwnI w' B v' (l ++ [c]) → (w.alloc (.cells #[.int .i64 c] 3)).grownBy w' v.ownBlock → (v'.ownBlock = v.ownBlock ∨ v'.ownBlock = some (w.heap.size + 1)) → wpList Try.prog ops Q rest (a.put o.dst v') w') : wpList Try.prog ops Q (o :: rest) a (w.alloc (.cells #[.int .i64 c] 3)) := by
  obtain ⟨i0, hi, hz0, hz1, hz2⟩ := info_parts Try.info3
  obtain ⟨v', w', a1, a2, a3, _, a4⟩ := run_append_own_at (P := Try.prog) (w.alloc (.cells #[.int .i64 c] 3)) B 36 o.type 3 i0 (.int .i64 0) 1 8 Try.underlying36 hi hz0 hz1 hz2 rfl (by decide) v l.length (l.map (Value.int .i64)) (World.ownsRow.alloc hown _) ⟨w.heap.size, 0, none⟩ 1 1 [.int .i64 c] rfl
    (fun j u hj => by match j, hj with | 0, hj => simp at hj; subst hj; simp [Addr.add]) (fun u hu => by simp at hu; subst hu; rfl) (by unfold maxLen; omega) (by omega) (by simp; omega)
  refine wpList_plain hgd fun K' hK' => ?_
  unfold Oper.wp execOp
  simp only [ho, resolve, invoke, builtin, Sem.run_bind, Sem.run_pure, Result.andThen_ok, List.map_toArray, List.map_cons, List.map_nil, hs, hx, a1]
  refine hK' _ _ (h v' w' ?_ a3 (by simpa using a4))
  unfold OwnI
  rw [List.length_append, List.map_append]
  exact a2
theorem OwnI.not_row {w : World} {N g : Nat} {v : Value} {l : List Int} {cur : Array Value} {t : TypeId} (ho : OwnI w N v l) (hb : Blk w g t cur) (ht : t ≠ 3) : some g ≠ v.ownBlock := fun e => by
  rcases ho.2 with ⟨rfl, _⟩ | ⟨g', cap, cur', rfl, _, hg, _⟩
  · cases e
  · simp [Value.ownBlock] at e
    subst e
    have h := hb
    unfold Blk at h
    rw [hg] at h
    injection h with h
    injection h with _ h
    exact ht h.symm
theorem OwnI.own_lt {w : World} {N g : Nat} {v : Value} {l : List Int} (ho : OwnI w N v l) (h : some g = v.ownBlock) : N ≤ g ∧ g < w.heap.size := World.ownsRow.lt ho g h.symm
/-- A number is appended to the free columns. -/
theorem RowsM.grown {w w1 w2 : World} {M N B : Nat} {rs : List Rw} {X : List (List Rat)} {fv fv' : Value} {l : List Int} (h : RowsM w M N fv.ownBlock rs X) (ho : OwnI w B fv l) (hb : Below w.heap.size w w1) (hg : w1.grownBy w2 fv.ownBlock) (hv : fv'.ownBlock = fv.ownBlock ∨ fv'.ownBlock = some w1.heap.size) :
    RowsM w2 M N fv'.ownBlock rs X := by
  have h1 := h.below hb
  have hM := h1.lt
  obtain ⟨cur, hB, hC⟩ := h1.blk
  have ho1 := ho.below hb
  have hf : Fr (TE M fv.ownBlock) w1 w2 := ⟨hg.os, hg.tape, hg.output, hg.size, fun b hb hn => hg.block b hb (fun e => hn (.inr e))⟩
  refine ⟨⟨cur, (hg.block M hB.lt (ho1.not_row hB (by decide))).trans hB, hC⟩, h.len, h.xl, fun k hk => ?_⟩
  have hu := (h1.row k hk).up.fr (hf.more (fun b hb => .inl hb))
  refine hu.less (fun b hb => ?_)
  rcases hb with hb | hb
  · exact .inl (.inl hb)
  · rcases hv with hv | hv
    · exact .inl (.inr (hb.trans hv))
    · rw [hv] at hb
      injection hb with hb
      exact .inr (by omega)

end Go.Proofs.Ytlbjaimgoiimgaa

namespace Go.Proofs.Ytlbjaimgoiimgaa
open Go.RowKit

theorem RowC.is {w : World} {N m M : Nat} {r : Rw} {x : List Rat} {cur : Array Value} (h : RowC w N m r x) (hM : Blk w M 45 cur) (hN : N ≤ M) : RowIs (TE M none) w m r x := by
  obtain ⟨g, cur', fs, hA, hg, hB, hC, hl, hq⟩ := h.a
  have hT : ∀ b, TE M none b → N ≤ b := fun b hb => by
    rcases hb with rfl | hb
    · exact hN
    · cases hb
  refine ⟨h.n, h.len, ⟨g, cur', fs, hA, fun ht => ?_, hB, hC, hl, fun j hj => (hq j hj).less hT⟩, h.v.less hT⟩
  rcases ht with rfl | ht
  · have e := hB.symm.trans hM
    injection e with e
    injection e with _ e
    cases e
  · cases ht
theorem OwnI.farM {w V : World} {N M : Nat} {v : Value} {l : List Int} {cur : Array Value} (ho : OwnI w N v l) (hB : Blk w M 45 cur) (hf : Fr (· = M) w V) : OwnI V N v l :=
  World.ownsRow.kept (row := some M) ho ⟨hf.1, hf.2.1, hf.2.2.1, hf.size, fun k hk hn => hf.2.2.2.2 k hk (fun e => hn (by rw [e]))⟩ (.inr (fun e => ho.not_row hB (by decide) e.symm))

/-- What the loop over the columns has. -/
structure ElI (fst : Bool) (w wr : World) (M N : Nat) (X : List (List Rat)) (fv : Value) (fr : List Int) (rs : List Rw) (Y : List (List Rat)) (c r : Nat) : Prop where
  R : RowsM wr M N fv.ownBlock rs Y
  own : OwnI wr w.heap.size fv fr
  frl : fr.length ≤ c
  run : runE fst N 0 0 [] X = runE fst (N - c) c r fr Y
  rc : r ≤ c
  bl : Below w.heap.size w wr
  lo : w.heap.size ≤ M
theorem ElI.below {fst : Bool} {w wr wq : World} {M N : Nat} {X : List (List Rat)} {fv : Value} {fr : List Int} {rs : List Rw} {Y : List (List Rat)} {c r : Nat} (h : ElI fst w wr M N X fv fr rs Y c r) (hb : Below wr.heap.size wr wq) : ElI fst w wq M N X fv fr rs Y c r :=
  ⟨h.R.below hb, h.own.below hb, h.frl, h.run, h.rc, h.bl.trans (hb.mono h.bl.size), h.lo⟩

/-- What the loop over the rows has. -/
structure RdE (w wr : World) (M N : Nat) (fv : Value) (fr : List Int) (rs : List Rw) (p : List Rat) (r c : Nat) (X Y : List (List Rat)) (i : Nat) : Prop where
  R : RowsM wr M N fv.ownBlock rs (Y ++ X.drop i)
  own : OwnI wr w.heap.size fv fr
  P : PartR (redG p r c) X Y i
  pv : (Y ++ X.drop i).getD r [] = p
  bl : Below w.heap.size w wr
  lo : w.heap.size ≤ M
section
variable {w wr wq : World} {M N : Nat} {fv : Value} {fr : List Int} {rs : List Rw} {p : List Rat} {r c : Nat} {X Y : List (List Rat)} {i : Nat}
theorem RdE.below (h : RdE w wr M N fv fr rs p r c X Y i) (hb : Below wr.heap.size wr wq) : RdE w wq M N fv fr rs p r c X Y i :=
  ⟨h.R.below hb, h.own.below hb, h.P, h.pv, h.bl.trans (hb.mono h.bl.size), h.lo⟩
theorem RdE.skip (h : RdE w wr M N fv fr rs p r c X Y i) (hi : i < X.length) (hz : i = r ∨ (X.getD i []).getD c 0 = 0) : RdE w wr M N fv fr rs p r c X (Y ++ [X.getD i []]) (i + 1) :=
  ⟨by rw [PartR.keep hi]; exact h.R, h.own, h.P.step hi (by unfold redG; rw [if_pos hz]), by rw [PartR.keep hi]; exact h.pv, h.bl, h.lo⟩
theorem RdE.small (h : RdE w wr M N fv fr rs p r c X Y i) : ∀ b, TE M fv.ownBlock b → b < wr.heap.size := fun b hb => by
  rcases hb with hb | hb
  · have := h.R.lt
    omega
  · exact (h.own.own_lt hb).2
theorem RdE.put (h : RdE w wr M N fv fr rs p r c X Y i) (hi : i < X.length) (hN : X.length = N) (hir : i ≠ r) (hn : (X.getD i []).getD c 0 ≠ 0) {q : Rw} {ys : List Rat} (hq : RowIs (TE M fv.ownBlock) wr N q ys) (hs : subL ((X.getD i []).getD c 0) p (X.getD i []) = some ys) :
    ∃ V, V = ((((wr.setCell ⟨M, i * 5, none⟩ (.slice q.A q.n q.c)).setCell ⟨M, i * 5 + 1, none⟩ (.int .i64 q.f.s)).setCell ⟨M, i * 5 + 2, none⟩ (.slice q.f.A q.f.n q.f.c)).setCell ⟨M, i * 5 + 3, none⟩ (.int .i64 q.f.s')).setCell ⟨M, i * 5 + 4, none⟩ (.slice q.f.A' q.f.n' q.f.c') ∧
      RdE w V M N fv fr (rs.set i q) p r c X (Y ++ [ys]) (i + 1) := by
  obtain ⟨V, hV, hR, hf⟩ := h.R.put (k := i) (by omega) hq
  rw [h.P.set_ hi] at hR
  exact ⟨V, hV, hR, h.own.farM h.R.blk.choose_spec.1 hf, h.P.step hi (by unfold redG; rw [if_neg (by rintro (e | e); exact hir e; exact hn e)]; exact hs), by rw [← h.P.set_ hi, getD_set_ne hir]; exact h.pv,
    h.bl.trans (hf.below (fun b hb => by subst hb; exact h.lo) h.bl.size), h.lo⟩
theorem RdE.fail (h : RdE w wr M N fv fr rs p r c X Y i) (hi : i < X.length) (hir : i ≠ r) (hn : (X.getD i []).getD c 0 ≠ 0) (hs : subL ((X.getD i []).getD c 0) p (X.getD i []) = none) : mapR (redG p r c) 0 X = none :=
  h.P.fail hi (by unfold redG; rw [if_neg (by rintro (e | e); exact hir e; exact hn e)]; exact hs)
end

theorem blk_run5 {b b' : World} {a0 a1 a2 a3 a4 : Value} (h : Below (b.alloc (.cells #[a0, a1, a2, a3, a4] 45)).heap.size (b.alloc (.cells #[a0, a1, a2, a3, a4] 45)) b') : Blk b' b.heap.size 45 #[a0, a1, a2, a3, a4] := (Blk.new b 45 _).below h (by simp)
theorem Blk.set5 {w : World} {g : Nat} {t : TypeId} {a0 a1 a2 a3 a4 : Value} (h : Blk w g t #[a0, a1, a2, a3, a4]) (b0 b1 b2 b3 b4 : Value) : Blk (((((w.setCell ⟨g, 0, none⟩ b0).setCell ⟨g, 1, none⟩ b1).setCell ⟨g, 2, none⟩ b2).setCell ⟨g, 3, none⟩ b3).setCell ⟨g, 4, none⟩ b4) g t #[b0, b1, b2, b3, b4] := by
  simpa using ((((h.set_ 0 b0).set_ 1 b1).set_ 2 b2).set_ 3 b3).set_ 4 b4
theorem rowE_st {U : Nat → Prop} {w : World} {N1 N2 g m : Nat} {r : Rw} {x : List Rat} (h : RowIs (fun b => U b ∨ N1 ≤ b ∧ b < N2) w m r x) (h1 : N1 ≤ g) (h2 : g < N2) (u0 u1 u2 u3 u4 : Value) :
    RowIs U (((((w.setCell ⟨g, 0, none⟩ u0).setCell ⟨g, 1, none⟩ u1).setCell ⟨g, 2, none⟩ u2).setCell ⟨g, 3, none⟩ u3).setCell ⟨g, 4, none⟩ u4) m r x :=
  (h.fr ((fr_st5 g w u0 u1 u2 u3 u4).more (fun b hb => .inr (by subst hb; exact ⟨h1, h2⟩)))).less (fun _ hb => .inl hb)
theorem rowE_new {U : Nat → Prop} {w : World} {N1 N2 m : Nat} {r : Rw} {x : List Rat} (h : RowIs (fun b => U b ∨ N1 ≤ b ∧ b < N2) w m r x) (o : Obj) : RowIs U (w.alloc o) m r x :=
  (h.below ((Below.refl _ _).alloc (Nat.le_refl _) _)).less (fun _ hb => .inl hb)

end Go.Proofs.Ytlbjaimgoiimgaa

namespace Go.Proofs.Ytlbjaimgoiimgaa
open Go.RowKit

/-- A slice that reads as the numbers xs. -/
def QsAt (w : World) (A : Option Addr) (xs : List Rat) : Prop := ∃ fs : List Fc, FsAt (fun _ => False) w A fs xs
theorem QsAt.below {w w' : World} {A : Option Addr} {xs : List Rat} (h : QsAt w A xs) (hb : Below w.heap.size w w') : QsAt w' A xs := by
  obtain ⟨fs, h⟩ := h
  exact ⟨fs, h.fr (Fr.of_below hb)⟩
theorem QsAt.at_ {w : World} {A : Option Addr} {xs : List Rat} (h : QsAt w A xs) {k : Nat} (hk : k < xs.length) : ∃ (b off : Nat) (f : Fc), A = some ⟨b, off, none⟩ ∧ b < w.heap.size ∧
    w.cell? ⟨b, off + k * 4, none⟩ = some (.int .i64 f.s) ∧ w.cell? ⟨b, off + k * 4 + 1, none⟩ = some (.slice f.A f.n f.c) ∧ w.cell? ⟨b, off + k * 4 + 2, none⟩ = some (.int .i64 f.s') ∧ w.cell? ⟨b, off + k * 4 + 3, none⟩ = some (.slice f.A' f.n' f.c') ∧ FA (fun _ => False) w f (xs.getD k 0) := by
  obtain ⟨fs, hl, h⟩ := h
  obtain ⟨b, off, e, hb, _, h0, h1, h2, h3, h4⟩ := h k (by omega)
  exact ⟨b, off, _, e, hb, h0, h1, h2, h3, h4⟩
theorem QsAt.nil (w : World) (A : Option Addr) : QsAt w A [] := ⟨[], rfl, fun k hk => by cases hk⟩
theorem QsAt.of_fds {w : World} {A : Option Addr} {ds : List Fd} (h : FdsAt w A ds) (hr : ∀ k, k < ds.length → (ds.getD k dnil).R) : QsAt w A (ds.map Fd.q) := by
  obtain ⟨fs, hl, hf, hi⟩ := h.fcs
  refine ⟨fs, by rw [List.length_map]; exact hl, fun k hk => ?_⟩
  obtain ⟨b, off, e, hb, h0, h1, h2, h3⟩ := hf k hk
  refine ⟨b, off, e, hb, fun h => h, h0, h1, h2, h3, ?_⟩
  have e2 : (ds.map Fd.q).getD k 0 = (ds.getD k dnil).q := by
    rw [List.getD_eq_getElem?_getD, List.getD_eq_getElem?_getD, List.getElem?_map, List.getElem?_eq_getElem (by omega)]; rfl
  rw [e2]
  exact (fd_fa (hi k (by omega)) (hr k (by omega))).less (fun _ h => h.elim)
/-- What a block of fractions reads as. -/
theorem QsAt.of_cells {S : Nat → Prop} {w : World} {g : Nat} {cur : Array Value} {fs : List Fc} {xs : List Rat} (hb : Blk w g 40 cur) (hc : CellsL cur fs) (hl : fs.length = xs.length) (hf : ∀ k, k < fs.length → FA S w (fs.getD k fnil) (xs.getD k 0)) : QsAt w (some ⟨g, 0, none⟩) xs :=
  ⟨fs, hl, fun k hk => by
    obtain ⟨c0, c1, c2, c3⟩ := hc k hk
    exact ⟨g, 0, rfl, hb.lt, fun h => h, by rw [Nat.zero_add, hb.cell]; exact c0, by rw [Nat.zero_add, hb.cell]; exact c1, by rw [Nat.zero_add, hb.cell]; exact c2, by rw [Nat.zero_add, hb.cell]; exact c3, (hf k hk).less (fun _ h => h.elim)⟩⟩

set_option maxRecDepth 100000 in
set_option maxHeartbeats 8000000 in
theorem rlsame_true {A1 A2 : Option Addr} {n c1 c2 : Nat} {xs : List Rat} (w : World) (h1 : QsAt w A1 xs) (h2 : QsAt w A2 xs) (hn : xs.length = n) (hnn : n ≤ 1000000) :
    Calls Try.prog 14 #[.slice A1 n c1, .slice A2 n c2] w fun e w' => e = .returned (.bool true) ∧ Below w.heap.size w w' := by
  have H1 := Lib.hid h1; clear h1
  have H2 := Lib.hid h2; clear h2
  have HN := Lib.hid hn; clear hn
  go_enter Try.func14, Try.ntmps14
  go_wp2_with fail
  go_loopw [5] (fun iv wr => ∃ i : Nat, i ≤ n ∧ iv = .int .i64 i ∧ Below w.heap.size w wr) (fun iv _ => n - (intOf iv).toNat)
  case atStart => exact ⟨0, Nat.zero_le _, rfl, Below.refl _ _⟩
  case round =>
    obtain ⟨i, hi, rfl, hbl⟩ := hrel
    by_cases hgo : i < n
    · obtain ⟨b1, o1, f1, hA1, hB1, c0, c1', c2', c3, hf1⟩ := (H1.out.below hbl).at_ (k := i) (by rw [HN.out]; exact hgo)
      obtain ⟨b2, o2, f2, hA2, hB2, d0, d1, d2, d3, hf2⟩ := (H2.out.below hbl).at_ (k := i) (by rw [HN.out]; exact hgo)
      subst hA1 hA2
      obtain ⟨s1, X1, n1, e1, s2, X2, n2, e2⟩ := f1
      obtain ⟨s3, X3, n3, e3, s4, X4, n4, e4⟩ := f2
      simp only at c0 c1' c2' c3 d0 d1 d2 d3
      have HSB := Lib.hid (fun (W' : World) (hb : Below wr.heap.size wr W') => fsame_any _ _ _ _ _ _ _ _ _ _ _ _ _ _ _ _ _ _ _ _ W' (hf1.below hb).fv (hf2.below hb).fv true (by simp))
      clear hf1 hf2
      have e0 : ∀ W' : World, Below wr.heap.size wr W' → W'.cell? ⟨b1, o1 + i * 4, none⟩ = some (.int .i64 s1) ∧ W'.cell? ⟨b1, o1 + i * 4 + 1, none⟩ = some (.slice X1 n1 e1) ∧ W'.cell? ⟨b1, o1 + i * 4 + 2, none⟩ = some (.int .i64 s2) ∧ W'.cell? ⟨b1, o1 + i * 4 + 3, none⟩ = some (.slice X2 n2 e2) ∧
          W'.cell? ⟨b2, o2 + i * 4, none⟩ = some (.int .i64 s3) ∧ W'.cell? ⟨b2, o2 + i * 4 + 1, none⟩ = some (.slice X3 n3 e3) ∧ W'.cell? ⟨b2, o2 + i * 4 + 2, none⟩ = some (.int .i64 s4) ∧ W'.cell? ⟨b2, o2 + i * 4 + 3, none⟩ = some (.slice X4 n4 e4) := fun W' hW =>
        ⟨(hW.cell (p := ⟨b1, _, none⟩) hB1).trans c0, (hW.cell (p := ⟨b1, _, none⟩) hB1).trans c1', (hW.cell (p := ⟨b1, _, none⟩) hB1).trans c2', (hW.cell (p := ⟨b1, _, none⟩) hB1).trans c3, (hW.cell (p := ⟨b2, _, none⟩) hB2).trans d0, (hW.cell (p := ⟨b2, _, none⟩) hB2).trans d1, (hW.cell (p := ⟨b2, _, none⟩) hB2).trans d2, (hW.cell (p := ⟨b2, _, none⟩) hB2).trans d3⟩
      have E0 := Lib.hid e0; clear e0
      have hB00 : Below wr.heap.size wr wr.drew := (Below.refl _ _).drew
      go_upto_region 6 with fail
      clear c0 c1' c2' c3 d0 d1 d2 d3
      go_cut [26] from 17 to 26 (fun v wx => v = .bool false ∧ Below wr.heap.size wr wx)
      case first =>
        go_region_held3 (fun W' => W'.cell? ⟨b1, o1 + i * 4, none⟩ = some (.int .i64 s1) ∧ W'.cell? ⟨b1, o1 + i * 4 + 1, none⟩ = some (.slice X1 n1 e1) ∧ W'.cell? ⟨b1, o1 + i * 4 + 2, none⟩ = some (.int .i64 s2) ∧ W'.cell? ⟨b1, o1 + i * 4 + 3, none⟩ = some (.slice X2 n2 e2) ∧
            W'.cell? ⟨b2, o2 + i * 4, none⟩ = some (.int .i64 s3) ∧ W'.cell? ⟨b2, o2 + i * 4 + 1, none⟩ = some (.slice X3 n3 e3) ∧ W'.cell? ⟨b2, o2 + i * 4 + 2, none⟩ = some (.int .i64 s4) ∧ W'.cell? ⟨b2, o2 + i * 4 + 3, none⟩ = some (.slice X4 n4 e4))
          (first | exact E0.out _ hB4 | exact E0.out _ hB00 | exact E0.out _ (Below.refl _ _))
          (first | (go_at_call 22; refine (HSB.out _ hB00).mono ?_; rintro e w4 ⟨rfl, hb4⟩; have hB4 : Below wr.heap.size wr w4 := ⟨hb4.os, hb4.tape, hb4.output, hb4.size, hb4.block⟩))
        all_goals
          go_wp2_with fail
          go_meet
          first | exact ⟨rfl, hB4⟩ | exact hB4
      obtain ⟨rfl, hb5⟩ := hcut
      clear E0 hB00 HSB
      have hbb := hbl.trans (hb5.mono hbl.size)
      go_wp2_with fail
      go_roundw
      case rel => exact ⟨i + 1, by omega, rfl, hbb⟩
      case measure => simp [intOf]; omega
    · have : i = n := by omega
      subst this
      go_wp2_with fail
      go_ret
      exact ⟨rfl, hbl⟩

/-- All parts have at most d digits. -/
def FewD (d : Int) (f : Fd) : Prop := (f.l.length : Int) ≤ d ∧ (f.l'.length : Int) ≤ d
set_option maxRecDepth 100000 in
set_option maxHeartbeats 8000000 in
theorem fewF_any {A : Option Addr} {m cap : Nat} {ds : List Fd} {N d : Int} (w : World) (h : FdsAt w A ds) (hm : ds.length = m) (hN0 : 0 ≤ N) (hN1 : N ≤ 1000) :
    Calls Try.prog 9 #[.slice A m cap, .int .i64 N, .int .i64 d] w fun e w' => ∃ b, e = .returned (.bool b) ∧ Below w.heap.size w w' ∧ (b = true → (m : Int) ≤ N ∧ ∀ k, k < m → FewD d (ds.getD k dnil)) := by
  have HD := Lib.hid h; clear h
  have HM := Lib.hid hm; clear hm
  go_enter Try.func9, Try.ntmps9
  go_wp2_with fail
  go_loopw [7] (fun iv wr => ∃ i : Nat, i ≤ m ∧ (i : Int) ≤ N + 1 ∧ iv = .int .i64 i ∧ Below w.heap.size w wr ∧ Hid (∀ k, k < i → FewD d (ds.getD k dnil))) (fun iv _ => m - (intOf iv).toNat)
  case atStart => exact ⟨0, Nat.zero_le _, by omega, rfl, Below.refl _ _, Lib.hid fun k hk => by omega⟩
  case round =>
    obtain ⟨i, hi, hiN, rfl, hbl, hz⟩ := hrel
    by_cases hgo : i < m
    · by_cases hn : (i : Int) ≤ N
      · have hd1 : decide ((i : Int) ≤ N) = true := decide_eq_true hn
        obtain ⟨b1, o1, f1, hA1, hB1, c0, c1, c2, c3, hf1⟩ := (HD.out.below hbl) i (by rw [HM.out]; exact hgo)
        subst hA1
        have h1 := hf1.a1.hn
        have h2 := hf1.a2.hn
        obtain ⟨s1, X1, n1, e1, s2, X2, n2, e2⟩ := f1
        simp only at c0 c1 c2 c3 h1 h2
        have H12 := Lib.hid (And.intro h1 h2)
        clear hf1 h1 h2
        go_wp2_with fail
        clear c0 c1 c2 c3
        by_cases hfw : (n1 : Int) ≤ d ∧ (n2 : Int) ≤ d
        · (with_reducible refine (ffew_any _ _ _ _ _ _ _ _ _ _ true (decide_eq_true hfw)).mono ?_)
          rintro e u1 ⟨rfl, hb1⟩
          have hbb := hbl.trans (hb1.mono hbl.size)
          have HF := Lib.hid (show FewD d (ds.getD i dnil) from ⟨by rw [H12.out.1]; exact hfw.1, by rw [H12.out.2]; exact hfw.2⟩)
          clear hfw hd1
          go_wp2_with fail
          go_roundw
          case rel => exact ⟨i + 1, by omega, by omega, rfl, hbb, Lib.hid fun k hk => by
            by_cases hki : k < i
            · exact hz.out k hki
            · have : k = i := by omega
              subst this
              exact HF.out⟩
          case measure => simp [intOf]; omega
        · (with_reducible refine (ffew_any _ _ _ _ _ _ _ _ _ _ false (decide_eq_false hfw)).mono ?_)
          rintro e u1 ⟨rfl, hb1⟩
          have hbb := hbl.trans (hb1.mono hbl.size)
          clear hfw hd1
          go_wp2_with fail
          go_ret
          exact ⟨false, rfl, hbb, fun h => (by cases h)⟩
      · have hd1 : decide ((i : Int) ≤ N) = false := decide_eq_false hn
        have hd2 : decide ((m : Int) ≤ N) = false := decide_eq_false (by omega)
        go_wp2_with fail
        go_ret
        first | exact ⟨false, rfl, hbl, fun h => (by cases h)⟩ | exact .inl ⟨rfl, hbl⟩
    · have : i = m := by omega
      subst this
      by_cases hn : (i : Int) ≤ N
      · have hd2 : decide ((i : Int) ≤ N) = true := decide_eq_true hn
        go_wp2_with fail
        go_ret
        first | exact ⟨true, rfl, hbl, fun _ => ⟨hn, hz.out⟩⟩ | exact .inr ⟨rfl, hbl, hn, by simpa using hz.out⟩
      · have hd2 : decide ((i : Int) ≤ N) = false := decide_eq_false hn
        go_wp2_with fail
        go_ret
        first | exact ⟨false, rfl, hbl, fun h => (by cases h)⟩ | exact .inl ⟨rfl, hbl⟩

set_option maxRecDepth 100000 in
set_option maxHeartbeats 8000000 in
theorem few_any {A : Option Addr} {m cap : Nat} {rs : List Rd} {N d : Int} (w : World) (h : RdsAt w A rs) (hm : rs.length = m) (hN0 : 0 ≤ N) (hN1 : N ≤ 1000) :
    Calls Try.prog 8 #[.slice A m cap, .int .i64 N, .int .i64 d] w fun e w' => ∃ b, e = .returned (.bool b) ∧ Below w.heap.size w w' ∧ (b = true → (m : Int) ≤ N ∧ ∀ k, k < m → ((rs.getD k rnil).A.length : Int) ≤ N ∧ (∀ j, j < (rs.getD k rnil).A.length → FewD d ((rs.getD k rnil).A.getD j dnil)) ∧ FewD d (rs.getD k rnil).v) := by
  have HD := Lib.hid h; clear h
  have HM := Lib.hid hm; clear hm
  go_enter Try.func8, Try.ntmps8
  go_wp2_with fail
  go_loopw [7] (fun iv wr => ∃ i : Nat, i ≤ m ∧ (i : Int) ≤ N + 1 ∧ iv = .int .i64 i ∧ Below w.heap.size w wr ∧ Hid (∀ k, k < i → ((rs.getD k rnil).A.length : Int) ≤ N ∧ (∀ j, j < (rs.getD k rnil).A.length → FewD d ((rs.getD k rnil).A.getD j dnil)) ∧ FewD d (rs.getD k rnil).v)) (fun iv _ => m - (intOf iv).toNat)
  case atStart => exact ⟨0, Nat.zero_le _, by omega, rfl, Below.refl _ _, Lib.hid fun k hk => by omega⟩
  case round =>
    obtain ⟨i, hi, hiN, rfl, hbl, hz⟩ := hrel
    by_cases hgo : i < m
    · by_cases hn : (i : Int) ≤ N
      · have hd1 : decide ((i : Int) ≤ N) = true := decide_eq_true hn
        obtain ⟨b1, o1, Aa, ca, f1, hA1, hB1, c0, c1, c2, c3, c4, hla, hfa, hf1⟩ := (HD.out.below hbl) i (by rw [HM.out]; exact hgo)
        subst hA1
        have h1 := hf1.a1.hn
        have h2 := hf1.a2.hn
        obtain ⟨s1, X1, n1, e1, s2, X2, n2, e2⟩ := f1
        simp only at c1 c2 c3 c4 h1 h2
        have H12 := Lib.hid (And.intro h1 h2)
        obtain ⟨la, hlae⟩ : ∃ l, (rs.getD i rnil).A.length = l := ⟨_, rfl⟩
        rw [hlae] at c0
        have HLA := Lib.hid hlae; clear hlae
        clear hf1 h1 h2 hla
        go_wp2_with fail
        (with_reducible refine (fewF_any _ hfa HLA.out hN0 hN1).mono ?_)
        rintro e u1 ⟨b, rfl, hb1, hbt⟩
        have hbb := hbl.trans (hb1.mono hbl.size)
        have k1 := hb1.cell (p := ⟨b1, o1 + i * 5 + 1, none⟩) hB1
        have k2 := hb1.cell (p := ⟨b1, o1 + i * 5 + 2, none⟩) hB1
        have k3 := hb1.cell (p := ⟨b1, o1 + i * 5 + 3, none⟩) hB1
        have k4 := hb1.cell (p := ⟨b1, o1 + i * 5 + 4, none⟩) hB1
        rw [c1] at k1
        rw [c2] at k2
        rw [c3] at k3
        rw [c4] at k4
        cases b with
        | false =>
          clear hbt hfa c0 c1 c2 c3 c4 hd1
          go_wp2_with fail
          go_ret
          exact ⟨false, rfl, hbb, fun h => (by cases h)⟩
        | true =>
          have HBT := Lib.hid (hbt rfl)
          clear hbt hfa c0 c1 c2 c3 c4 hb1
          go_wp2_with fail
          clear k1 k2 k3 k4
          by_cases hfw : (n1 : Int) ≤ d ∧ (n2 : Int) ≤ d
          · (with_reducible refine (ffew_any _ _ _ _ _ _ _ _ _ _ true (decide_eq_true hfw)).mono ?_)
            rintro e u2 ⟨rfl, hb2⟩
            have hbb2 := hbb.trans (hb2.mono hbb.size)
            have HF := Lib.hid (show ((rs.getD i rnil).A.length : Int) ≤ N ∧ (∀ j, j < (rs.getD i rnil).A.length → FewD d ((rs.getD i rnil).A.getD j dnil)) ∧ FewD d (rs.getD i rnil).v from
              ⟨by rw [HLA.out]; exact HBT.out.1, by rw [HLA.out]; exact HBT.out.2, by rw [H12.out.1]; exact hfw.1, by rw [H12.out.2]; exact hfw.2⟩)
            clear hfw hd1
            go_wp2_with fail
            go_roundw
            case rel => exact ⟨i + 1, by omega, by omega, rfl, hbb2, Lib.hid fun k hk => by
              by_cases hki : k < i
              · exact hz.out k hki
              · have : k = i := by omega
                subst this
                exact HF.out⟩
            case measure => simp [intOf]; omega
          · (with_reducible refine (ffew_any _ _ _ _ _ _ _ _ _ _ false (decide_eq_false hfw)).mono ?_)
            rintro e u2 ⟨rfl, hb2⟩
            have hbb2 := hbb.trans (hb2.mono hbb.size)
            clear hfw hd1
            go_wp2_with fail
            go_ret
            exact ⟨false, rfl, hbb2, fun h => (by cases h)⟩
      · have hd1 : decide ((i : Int) ≤ N) = false := decide_eq_false hn
        have hd2 : decide ((m : Int) ≤ N) = false := decide_eq_false (by omega)
        go_wp2_with fail
        go_ret
        first | exact ⟨false, rfl, hbl, fun h => (by cases h)⟩ | exact .inl ⟨rfl, hbl⟩
    · have : i = m := by omega
      subst this
      by_cases hn : (i : Int) ≤ N
      · have hd2 : decide ((i : Int) ≤ N) = true := decide_eq_true hn
        go_wp2_with fail
        go_ret
        first | exact ⟨true, rfl, hbl, fun _ => ⟨hn, hz.out⟩⟩ | exact .inr ⟨rfl, hbl, hn, by simpa using hz.out⟩
      · have hd2 : decide ((i : Int) ≤ N) = false := decide_eq_false hn
        go_wp2_with fail
        go_ret
        first | exact ⟨false, rfl, hbl, fun h => (by cases h)⟩ | exact .inl ⟨rfl, hbl⟩

end Go.Proofs.Ytlbjaimgoiimgaa

namespace Go.Proofs.Ytlbjaimgoiimgaa
open Go.RowKit

end Go.Proofs.Ytlbjaimgoiimgaa

namespace Go.Proofs.Ytlbjaimgoiimgaa
open Go.RowKit

theorem runFree_le {m c : Nat} {X Y : List (List Rat)} {k : Nat} (h : runFree m c X = some (k, Y)) : k ≤ c + m := by
  induction m generalizing c X with
  | zero => simp [runFree] at h; omega
  | succ m ih =>
    rw [runFree] at h
    cases he : elimS X c c with
    | none => rw [he] at h; cases h
    | some p =>
      obtain ⟨b, Z⟩ := p
      rw [he] at h
      cases b with
      | false => simp at h; omega
      | true => have := ih h; omega

/-- A list that is appended to. -/
structure OutI (w : World) (B : Nat) (vo : Value) (fs : List Fc) (xs : List Rat) : Prop where
  own : OwnF w B vo fs
  len : fs.length = xs.length
  q : ∀ k, k < fs.length → FA (fun b => some b = vo.ownBlock) w (fs.getD k fnil) (xs.getD k 0)
theorem OutI.nil (w : World) (B : Nat) : OutI w B (.slice none 0 0) [] [] := ⟨OwnF.nil _ _, rfl, fun k hk => by cases hk⟩
theorem OutI.below {w w' : World} {B : Nat} {vo : Value} {fs : List Fc} {xs : List Rat} (h : OutI w B vo fs xs) (hb : Below w.heap.size w w') : OutI w' B vo fs xs :=
  ⟨h.own.below hb, h.len, fun k hk => (h.q k hk).below hb⟩
theorem OwnF.own_lt {w : World} {N g : Nat} {v : Value} {l : List Fc} (ho : OwnF w N v l) (h : some g = v.ownBlock) : N ≤ g ∧ g < w.heap.size := World.ownsRow.lt ho g h.symm
/-- One more is appended. -/
theorem OutI.step {w w1 w2 : World} {B : Nat} {vo vo' : Value} {fs : List Fc} {xs : List Rat} {f : Fc} {x : Rat} (h : OutI w B vo fs xs) (hb : Below w.heap.size w w1) (ho : OwnF w2 B vo' (fs ++ [f])) (hg : w1.grownBy w2 vo.ownBlock) (hv : vo'.ownBlock = vo.ownBlock ∨ vo'.ownBlock = some w1.heap.size)
    (hf : FA (fun b => some b = vo.ownBlock) w f x) : OutI w2 B vo' (fs ++ [f]) (xs ++ [x]) := by
  have hF : Fr (fun b => some b = vo.ownBlock) w1 w2 := ⟨hg.os, hg.tape, hg.output, hg.size, fun b hb hn => hg.block b hb (fun e => hn e)⟩
  have hst : ∀ {f : Fc} {x : Rat}, FA (fun b => some b = vo.ownBlock) w f x → FA (fun b => some b = vo'.ownBlock) w2 f x := fun h => by
    have hu := ((h.below hb).up).fr (hF.more (fun b hb => .inl hb))
    refine hu.less (fun b hb => ?_)
    rcases hv with hv | hv
    · exact .inl (hb.trans hv)
    · rw [hv] at hb
      injection hb with hb
      exact .inr (by omega)
  refine ⟨ho, by rw [List.length_append, List.length_append, h.len]; rfl, fun k hk => ?_⟩
  rw [List.length_append] at hk
  by_cases hkl : k < fs.length
  · rw [List.getD_eq_getElem?_getD, List.getElem?_append_left hkl, ← List.getD_eq_getElem?_getD, List.getD_eq_getElem?_getD (l := xs ++ [x]), List.getElem?_append_left (by rw [← h.len]; exact hkl), ← List.getD_eq_getElem?_getD]
    exact hst (h.q k hkl)
  · have : k = fs.length := by simp at hk; omega
    subst this
    have e1 : (fs ++ [f]).getD fs.length fnil = f := by rw [List.getD_eq_getElem?_getD, List.getElem?_append_right (Nat.le_refl _), Nat.sub_self]; rfl
    have e2 : (xs ++ [x]).getD fs.length 0 = x := by rw [h.len, List.getD_eq_getElem?_getD, List.getElem?_append_right (Nat.le_refl _), Nat.sub_self]; rfl
    rw [e1, e2]
    exact hst hf
theorem OutI.done {w : World} {B : Nat} {vo : Value} {fs : List Fc} {xs : List Rat} (h : OutI w B vo fs xs) : ∃ A c, vo = .slice A xs.length c ∧ QsAt w A xs := by
  obtain ⟨A, c, rfl, h1, h2, h3⟩ := h.own.at_
  refine ⟨A, c, by rw [h.len], fs, h.len, fun k hk => ?_⟩
  obtain ⟨b, off, e, hb, c0, c1, c2, c3⟩ := h3 k hk
  exact ⟨b, off, e, hb, fun h => h, c0, c1, c2, c3, (h.q k hk).less (fun _ h => h.elim)⟩

end Go.Proofs.Ytlbjaimgoiimgaa
