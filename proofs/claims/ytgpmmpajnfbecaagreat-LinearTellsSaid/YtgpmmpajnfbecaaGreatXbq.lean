/- Walk of number. append of rows. Walk of Copied. -/
import Derived.Test.YtgpmmpajnfbecaaGreatXbp
import Derived.Test.YtgpmmpajnfbecaaGreatXbo
import Derived.Deep.QuietTactic

namespace Go.Proofs.YtgpmmpajnfbecaaGreat
open Go.RowKit

set_option maxRecDepth 100000 in
set_option maxHeartbeats 4000000 in
theorem number_fr (k : Int) (w : World) (hk : isI k) (h1 : isI 1) (hb : ab k < pw 60) :
    Calls Tryz.prog 26 #[.int .i64 k] w fun e w' => ∃ f : Fc, e = .returned f.v ∧ FO w' w.heap.size f.v (k : Rat).num (k : Rat).den ∧ Rb (k : Rat) 60 60 ∧ Below w.heap.size w w' := by
  have HB := Lib.hid hb; clear hb
  go_enter Tryz.func26, Tryz.ntmps26
  go_wp2_with fail
  have hbA : Below w.heap.size w (w.alloc (.cells #[.int .i64 0, .slice none 0 0, .int .i64 0, .slice none 0 0] 41)) := (Below.refl _ _).alloc (Nat.le_refl _) _
  have kA := Blk.new w 41 #[.int .i64 0, .slice none 0 0, .int .i64 0, .slice none 0 0]
  obtain ⟨G, hG⟩ : ∃ G, w.heap.size = G := ⟨_, rfl⟩
  rw [hG] at kA ⊢
  generalize w.alloc (.cells #[.int .i64 0, .slice none 0 0, .int .i64 0, .slice none 0 0] 41) = W at *
  (with_reducible refine (fof_y k W hk h1 HB.out).mono ?_)
  rintro e u1 ⟨⟨r1, C1, l1, i1, r2, C2, l2, i2⟩, rfl, ho, rb, hb1⟩
  have q4 := kA.below hb1 kA.lt
  have hT := hbA.trans (hb1.mono hbA.size)
  have hge : w.heap.size ≤ G := by omega
  have hGl := q4.lt
  obtain ⟨V, hV, hbV, hsV, kV, _, hFO⟩ := putf (s := r1) (A := C1) (n := l1) (c := i1) (s' := r2) (A' := C2) (n' := l2) (c' := i2) q4 hT hge
  have hov := hFO _ _ _ _ ho kA.lt
  have hbW : Below V.heap.size V (V.alloc (.cells #[.int .i64 r1, .slice C1 l1 i1, .int .i64 r2, .slice C2 l2 i2] 41)) := (Below.refl _ _).alloc (Nat.le_refl _) _
  have HO := Lib.hid ((hov.below hbW).mono hbA.size)
  have HBV := Lib.hid (hbV.trans (hbW.mono hbV.size))
  have HRB := Lib.hid rb
  have kW := kV.below hbW kV.lt
  have r0' := q4.cell 0
  have r1' := q4.cell 1
  have r2' := q4.cell 2
  have r3' := q4.cell 3
  have f0 := q4.frozen 0
  have f1 := q4.frozen 1
  have f2 := q4.frozen 2
  have f3 := q4.frozen 3
  simp at r0' r1' r2' r3'
  have X0 := Lib.hid (kW.cell 0)
  have X1 := Lib.hid (kW.cell 1)
  have X2 := Lib.hid (kW.cell 2)
  have X3 := Lib.hid (kW.cell 3)
  clear kA ho rb q4 kV kW hov hFO hbW hbV hbA
  go_wp2_with fail
  rw [← hV]
  refine bodyPost_ret (v := .agg #[.int .i64 r1, .slice C1 l1 i1, .int .i64 r2, .slice C2 l2 i2]) (by simp [results, Tryz.results26, go_sem, X0.out, X1.out, X2.out, X3.out]) rfl ?_
  exact ⟨⟨r1, C1, l1, i1, r2, C2, l2, i2⟩, rfl, HO.out, HRB.out, HBV.out⟩

end Go.Proofs.YtgpmmpajnfbecaaGreat

namespace Go.Proofs.YtgpmmpajnfbecaaGreat
open Go.RowKit

theorem Tryz.infoRw : (Tryz.prog.info? 43).map (fun i => (i.zero, i.size, i.bytes)) = some (some (.agg #[.slice none 0 0, .int .i64 0, .slice none 0 0, .int .i64 0, .slice none 0 0]), 5, 88) := by kernel_rfl

/-- A row as it lies: the slice of its elements, and its value. -/
structure Rw where
  A : Option Addr
  n : Nat
  c : Nat
  f : Fc
abbrev rwnil : Rw := ⟨none, 0, 0, fnil⟩
abbrev Rw.v (r : Rw) : Value := .agg #[.slice r.A r.n r.c, .int .i64 r.f.s, .slice r.f.A r.f.n r.f.c, .int .i64 r.f.s', .slice r.f.A' r.f.n' r.f.c']
/-- The cells of rows, one behind the other. -/
def rcs (l : List Rw) : List Value := l.flatMap fun r => [.slice r.A r.n r.c, Value.int .i64 r.f.s, .slice r.f.A r.f.n r.f.c, .int .i64 r.f.s', .slice r.f.A' r.f.n' r.f.c']
theorem rcs_length (l : List Rw) : (rcs l).length = l.length * 5 := by
  induction l with
  | nil => rfl
  | cons p l ih => simp only [rcs, List.flatMap_cons, List.length_append, List.length_cons, List.length_nil] at ih ⊢; omega
theorem rcs_append (a b : List Rw) : rcs (a ++ b) = rcs a ++ rcs b := by simp [rcs]
/-- The five cells of a row, from a look-up. -/
def Five (look : Nat → Option Value) (i : Nat) (r : Rw) : Prop :=
  look i = some (.slice r.A r.n r.c) ∧ look (i + 1) = some (.int .i64 r.f.s) ∧ look (i + 2) = some (.slice r.f.A r.f.n r.f.c) ∧ look (i + 3) = some (.int .i64 r.f.s') ∧ look (i + 4) = some (.slice r.f.A' r.f.n' r.f.c')
theorem rcs_get (l : List Rw) (j : Nat) (h : j < l.length) : Five (fun i => (rcs l)[i]?) (j * 5) (l.getD j rwnil) := by
  induction l generalizing j with
  | nil => simp at h
  | cons p l ih =>
    cases j with
    | zero => simp [rcs, Five]
    | succ j =>
      have h1 := ih j (by simpa using h)
      have e : (j + 1) * 5 = j * 5 + 1 + 1 + 1 + 1 + 1 := by omega
      have e3 : ∀ l, rcs (p :: l) = .slice p.A p.n p.c :: Value.int .i64 p.f.s :: .slice p.f.A p.f.n p.f.c :: .int .i64 p.f.s' :: .slice p.f.A' p.f.n' p.f.c' :: rcs l := fun _ => rfl
      rw [e, e3, List.getD_cons_succ]
      simpa [Five] using h1
theorem rcs_oneCell (l : List Rw) : ∀ u ∈ rcs l, u.oneCell' = true := by
  intro u hu
  unfold rcs at hu
  obtain ⟨p, _, hp⟩ := List.mem_flatMap.1 hu
  simp at hp
  rcases hp with rfl | rfl | rfl | rfl | rfl <;> rfl

/-- Rows at address A, as they lie. -/
def RcAt (w : World) (A : Option Addr) (rs : List Rw) : Prop := ∀ k, k < rs.length → ∃ (b off : Nat), A = some ⟨b, off, none⟩ ∧ b < w.heap.size ∧ Five (fun i => w.cell? ⟨b, off + i, none⟩) (k * 5) (rs.getD k rwnil)
theorem RcAt.below {w w' : World} {A : Option Addr} {rs : List Rw} (h : RcAt w A rs) (hb : Below w.heap.size w w') : RcAt w' A rs := fun k hk => by
  obtain ⟨b, off, e, hB, h0, h1, h2, h3, h4⟩ := h k hk
  have hc : ∀ i, w'.cell? ⟨b, i, none⟩ = w.cell? ⟨b, i, none⟩ := fun i => hb.cell (p := ⟨b, i, none⟩) hB
  exact ⟨b, off, e, Nat.lt_of_lt_of_le hB hb.size, (hc _).trans h0, (hc _).trans h1, (hc _).trans h2, (hc _).trans h3, (hc _).trans h4⟩
/-- The rows of a slice at address A, each with what it says. -/
structure RwIs (w : World) (r : Rw) (d : Rd) : Prop where
  n : r.n = d.A.length
  lim : d.A.length ≤ 1000000
  a : FdsAt w r.A d.A
  v : FdIs w r.f d.v
theorem RwIs.below {w w' : World} {r : Rw} {d : Rd} (h : RwIs w r d) (hb : Below w.heap.size w w') : RwIs w' r d := ⟨h.n, h.lim, h.a.below hb, h.v.below hb⟩
theorem RdsAt.rcs {w : World} {A : Option Addr} {ds : List Rd} (h : RdsAt w A ds) : ∃ rs : List Rw, rs.length = ds.length ∧ RcAt w A rs ∧ ∀ k, k < ds.length → RwIs w (rs.getD k rwnil) (ds.getD k rnil) := by
  have h' : ∀ k, ∃ r : Rw, k < ds.length → ∃ (b off : Nat), A = some ⟨b, off, none⟩ ∧ b < w.heap.size ∧ Five (fun i => w.cell? ⟨b, off + i, none⟩) (k * 5) r ∧ RwIs w r (ds.getD k rnil) := fun k => by
    by_cases hk : k < ds.length
    · obtain ⟨b, off, Aa, ca, f, e, hB, h0, h1, h2, h3, h4, h5, h6, h7⟩ := h k hk
      exact ⟨⟨Aa, _, ca, f⟩, fun _ => ⟨b, off, e, hB, ⟨h0, h1, h2, h3, h4⟩, rfl, h5, h6, h7⟩⟩
    · exact ⟨rwnil, fun hk' => absurd hk' hk⟩
  obtain ⟨F, hF⟩ := Classical.axiomOfChoice h'
  have e : ∀ k, k < ds.length → ((List.range ds.length).map F).getD k rwnil = F k := fun k hk => by simp [List.getD_eq_getElem?_getD, hk]
  refine ⟨(List.range ds.length).map F, by simp, ?_, ?_⟩
  · intro k hk
    rw [List.length_map, List.length_range] at hk
    rw [e k hk]
    obtain ⟨b, off, h1, h2, h3, _⟩ := hF k hk
    exact ⟨b, off, h1, h2, h3⟩
  · intro k hk
    rw [e k hk]
    obtain ⟨b, off, h1, h2, h3, h4⟩ := hF k hk
    exact h4

/-- A slice value v of rows, owned from block B on. -/
def OwnR (w : World) (B : Nat) (v : Value) (rs : List Rw) : Prop := w.ownsRow B 43 5 v rs.length (rcs rs)
section
variable {w w' : World} {B B' : Nat} {v : Value} {rs : List Rw}
theorem OwnR.nil (w : World) (B : Nat) : OwnR w B (.slice none 0 0) [] := World.ownsRow_nil w B 43 5
theorem OwnR.below (h : OwnR w B v rs) (hb : Below w.heap.size w w') : OwnR w' B v rs :=
  World.ownsRow.kept (row := none) h ⟨hb.os, hb.tape, hb.output, hb.size, fun k hk _ => hb.block k hk⟩ (by cases v.ownBlock <;> simp)
theorem OwnR.mono (h : OwnR w B v rs) (hb : B' ≤ B) : OwnR w B' v rs := World.ownsRow.mono h hb
theorem OwnR.lt {g n cap : Nat} (h : OwnR w B (.slice (some ⟨g, 0, none⟩) n cap) rs) : B ≤ g ∧ g < w.heap.size := World.ownsRow.lt h g rfl
/-- The cells of a block of rows. -/
def CellsR (cur : Array Value) (rs : List Rw) : Prop := ∀ k, k < rs.length → Five (fun i => cur[i]?) (k * 5) (rs.getD k rwnil)
/-- The block of one that is not empty. -/
theorem OwnR.blk (h : OwnR w B v rs) (hn : 0 < rs.length) : ∃ g cap cur, v = .slice (some ⟨g, 0, none⟩) rs.length cap ∧ B ≤ g ∧ Blk w g 43 cur ∧ CellsR cur rs ∧ rs.length ≤ cap ∧ cap ≤ maxLen := by
  have hh := h
  rcases h.2 with ⟨rfl, h0⟩ | ⟨g, cap, cur, rfl, hb, hg, hnc, hcm, hcs, htake⟩
  · omega
  · refine ⟨g, cap, cur, rfl, hb, hg, fun k hk => ?_, hnc, hcm⟩
    obtain ⟨f0, f1, f2, f3, f4⟩ := rcs_get rs k hk
    have hc : ∀ j, j < rs.length * 5 → cur[j]? = (rcs rs)[j]? := fun j hj => by
      rw [← htake, List.getElem?_take, if_pos hj]
      simp
    exact ⟨(hc _ (by omega)).trans f0, (hc _ (by omega)).trans f1, (hc _ (by omega)).trans f2, (hc _ (by omega)).trans f3, (hc _ (by omega)).trans f4⟩
theorem OwnR.at_ (h : OwnR w B v rs) : ∃ A c, v = .slice A rs.length c ∧ rs.length ≤ c ∧ c ≤ 9223372036854775807 ∧ RcAt w A rs := by
  rcases h.2 with ⟨rfl, hn⟩ | ⟨g, cap, cur, rfl, hb, hg, hnc, hcm, hcs, htake⟩
  · have : rs = [] := List.eq_nil_of_length_eq_zero hn
    subst this
    exact ⟨none, 0, rfl, by simp, by omega, fun k hk => by cases hk⟩
  · refine ⟨_, cap, rfl, by omega, by unfold maxLen at hcm; omega, fun k hk => ⟨g, 0, rfl, (Array.getElem?_eq_some_iff.1 hg).1, ?_⟩⟩
    obtain ⟨f0, f1, f2, f3, f4⟩ := rcs_get rs k hk
    simp only at f0 f1 f2 f3 f4
    unfold Five
    simp only [Nat.zero_add]
    rw [World.ownsRow.cellAt h (k * 5) (by omega), World.ownsRow.cellAt h (k * 5 + 1) (by omega), World.ownsRow.cellAt h (k * 5 + 2) (by omega), World.ownsRow.cellAt h (k * 5 + 3) (by omega), World.ownsRow.cellAt h (k * 5 + 4) (by omega)]
    exact ⟨f0, f1, f2, f3, f4⟩
end
theorem rc_src {w : World} {ad : Addr} {rs : List Rw} (h : RcAt w (some ad) rs) : ∀ j u, (rcs rs)[j]? = some u → w.cell? (ad.add j) = some u := fun j u hj => by
  have hlt := (List.getElem?_eq_some_iff.1 hj).1
  rw [rcs_length] at hlt
  obtain ⟨b, off, e, _, h0, h1, h2, h3, h4⟩ := h (j / 5) (by omega)
  injection e with e
  subst e
  obtain ⟨f0, f1, f2, f3, f4⟩ := rcs_get rs (j / 5) (by omega)
  simp only at h0 h1 h2 h3 h4 f0 f1 f2 f3 f4
  rw [← f0] at h0
  rw [← f1] at h1
  rw [← f2] at h2
  rw [← f3] at h3
  rw [← f4] at h4
  rw [Go.WideShapes.add_plain, ← hj]
  rcases (show j = j / 5 * 5 ∨ j = j / 5 * 5 + 1 ∨ j = j / 5 * 5 + 2 ∨ j = j / 5 * 5 + 3 ∨ j = j / 5 * 5 + 4 by omega) with e | e | e | e | e
  · rw [← e] at h0; rw [← h0]
  · rw [← e] at h1; rw [← h1]
  · rw [← e] at h2; rw [← h2]
  · rw [← e] at h3; rw [← h3]
  · rw [← e] at h4; rw [← h4]

theorem run_appR (w : World) (ty : TypeId) (B : Nat) (v : Value) (ds es : List Rw) (A : Option Addr) (m c : Nat) (hown : OwnR w B v ds) (hm : es.length = m) (hsrc : RcAt w A es) (hb : ds.length + m ≤ 1000000) (hbase : B ≤ w.heap.size) :
    ∃ v' w', (Builtin.append_ #[22, 22] ty #[v, .slice A m c]).run Tryz.prog w = .ok v' w' ∧ OwnR w' B v' (ds ++ es) ∧ w.grownBy w' v.ownBlock ∧ (v'.ownBlock = v.ownBlock ∨ v'.ownBlock = some w.heap.size) := by
  obtain ⟨i0, hi, hz0, hz1, hz2⟩ := info_parts Tryz.infoRw
  subst hm
  have hpl := rcs_length es
  cases A with
  | some ad =>
    obtain ⟨v', w', a1, a2, a3, _, a4⟩ := run_append_own_at (P := Tryz.prog) w B 22 ty 43 i0 (.agg #[.slice none 0 0, .int .i64 0, .slice none 0 0, .int .i64 0, .slice none 0 0]) 5 88 Tryz.underlying22 hi hz0 hz1 hz2 rfl (by decide) v ds.length (rcs ds) hown ad es.length c (rcs es) hpl (rc_src hsrc) (rcs_oneCell es) (by unfold maxLen; omega) (by omega) hbase
    refine ⟨v', w', a1, ?_, a3, a4⟩
    unfold OwnR
    rw [List.length_append, rcs_append]
    exact a2
  | none =>
    have he : es = [] := by
      cases es with
      | nil => rfl
      | cons d es => obtain ⟨b, off, e, _⟩ := hsrc 0 (by simp); cases e
    subst he
    refine ⟨v, w, ?_, by rw [List.append_nil]; exact hown, ⟨rfl, rfl, rfl, Nat.le_refl _, fun _ _ _ => rfl⟩, .inl rfl⟩
    rcases hown.2 with ⟨rfl, hn⟩ | ⟨g, cap, cur, rfl, _, _, hnc, _⟩
    · simp [Builtin.append_, run_underlying Tryz.underlying22, sizeOf, typeInfo, hi, Builtin.lenOf, Builtin.firstCells]
    · simp [Builtin.append_, run_underlying Tryz.underlying22, sizeOf, typeInfo, hi, Builtin.lenOf, Builtin.firstCells, loadCells, hnc, storeCells]

/-- append at a step of a region that draws its order. -/
theorem step_appR {w : World} {ops : Array Oper} {o : Oper} {a : Act} {K : Act → World → Prop} {Q : Exit → Act → World → Prop} {E : Prop} (hgd : o.guard = none) (s x : Operand)
    (ho : o.op = .call { callee := .builtin .append, args := #[s, x], argTypes := #[22, 22] })
    (B : Nat) (v : Value) (ds es : List Rw) (A : Option Addr) (m c : Nat) (hs : a.eval s = v) (hown : OwnR w B v ds)
    (hx : a.eval x = .slice A m c) (hm : es.length = m) (hsrc : RcAt w A es) (hb : ds.length + m ≤ 1000000) (hbase : B ≤ w.heap.size)
    (h : ∀ v' w', OwnR w' B v' (ds ++ es) → w.grownBy w' v.ownBlock → (v'.ownBlock = v.ownBlock ∨ v'.ownBlock = some w.heap.size) → K (a.put o.dst v') w') :
    if Region.wanted o (yielded ops a.tmps) = true then Oper.wp Tryz.prog o a w K Q else E := by
  have hw : Region.wanted o (yielded ops a.tmps) = true := by simp [Region.wanted, hgd]
  rw [if_pos hw]
  obtain ⟨v', w', hr, h2, h3, h4⟩ := run_appR w o.type B v ds es A m c hown hm hsrc hb hbase
  unfold Oper.wp execOp
  simp only [ho, resolve, invoke, builtin, Sem.run_bind, Sem.run_pure, Result.andThen_ok, List.map_toArray, List.map_cons, List.map_nil, hs, hx, hr]
  exact h v' w' h2 h3 h4
theorem grown_belR {B : Nat} {w0 w w' : World} {v : Value} {ds : List Rw} (h : Below B w0 w) (hown : OwnR w B v ds) (hg : w.grownBy w' v.ownBlock) (hB : B ≤ w0.heap.size) : Below B w0 w' :=
  ⟨hg.os.trans h.os, hg.tape.trans h.tape, hg.output.trans h.output, Nat.le_trans h.size hg.size, fun k hk => (hg.block k (by have := h.size; omega) (fun e => by have := (World.ownsRow.lt hown k e.symm).1; omega)).trans (h.block k hk)⟩
/-- A literal of one row. -/
theorem lit_rc (w : World) (r : Rw) : RcAt (w.alloc (.cells #[.slice r.A r.n r.c, .int .i64 r.f.s, .slice r.f.A r.f.n r.f.c, .int .i64 r.f.s', .slice r.f.A' r.f.n' r.f.c'] 43)) (some ⟨w.heap.size, 0, none⟩) [r] := fun k hk => by
  have : k = 0 := by simpa using hk
  subst this
  have h := Blk.new w 43 #[.slice r.A r.n r.c, .int .i64 r.f.s, .slice r.f.A r.f.n r.f.c, .int .i64 r.f.s', .slice r.f.A' r.f.n' r.f.c']
  exact ⟨_, 0, rfl, h.lt, (h.cell 0), (h.cell 1), (h.cell 2), (h.cell 3), (h.cell 4)⟩

end Go.Proofs.YtgpmmpajnfbecaaGreat

namespace Go.Proofs.YtgpmmpajnfbecaaGreat
open Go.RowKit

/-- A row that was copied: its elements in a block of their own. -/
structure RowC (w : World) (N m : Nat) (r : Rw) (x : List Rat) : Prop where
  n : r.n = m
  len : x.length = m + 1
  a : ∃ (g : Nat) (cur : Array Value) (fs : List Fc), r.A = some ⟨g, 0, none⟩ ∧ N ≤ g ∧ Blk w g 41 cur ∧ CellsL cur fs ∧ fs.length = m ∧ ∀ j, j < m → FA (fun b => N ≤ b) w (fs.getD j fnil) (x.getD j 0)
  v : FA (fun b => N ≤ b) w r.f (x.getD m 0)
theorem OwnR.not_frac {w : World} {N g : Nat} {vo : Value} {rows : List Rw} {cur : Array Value} (ho : OwnR w N vo rows) (hb : Blk w g 41 cur) : some g ≠ vo.ownBlock := fun e => by
  rcases ho.2 with ⟨rfl, _⟩ | ⟨g', cap, cur', rfl, _, hg, _⟩
  · cases e
  · simp [Value.ownBlock] at e
    subst e
    have h := hb
    unfold Blk at h
    rw [hg] at h
    injection h with h
    injection h with _ h
    cases h
theorem RowC.keep {w w1 w2 : World} {N m : Nat} {r : Rw} {x : List Rat} {vo : Value} {rows : List Rw} (h : RowC w N m r x) (hN : N ≤ w.heap.size) (ho : OwnR w N vo rows) (hb : Below w.heap.size w w1) (hg : w1.grownBy w2 vo.ownBlock) : RowC w2 N m r x := by
  have hbN : Below N w w2 := grown_belR ⟨hb.os, hb.tape, hb.output, hb.size, fun k hk => hb.block k (by omega)⟩ (ho.below hb) hg hN
  have hF : Fr (fun b => N ≤ b) w w2 := ⟨hbN.os, hbN.tape, hbN.output, hbN.size, fun b _ hn => hbN.block b (by omega)⟩
  obtain ⟨g, cur, fs, hA, hg1, hB, hC, hl, hf⟩ := h.a
  have hB2 : Blk w2 g 41 cur := (hg.block g (by have := hB.lt; have := hb.size; omega) (ho.not_frac hB)).trans (hB.below hb hB.lt)
  exact ⟨h.n, h.len, ⟨g, cur, fs, hA, hg1, hB2, hC, hl, fun j hj => (hf j hj).fr hF⟩, h.v.fr hF⟩

theorem RowC.new {w : World} {N m g cap : Nat} {cur : Array Value} {fs : List Fc} {f : Fc} {x : List Rat} (hg : N ≤ g) (hb : Blk w g 41 cur) (hc : CellsL cur fs) (hl : fs.length = m) (hx : x.length = m + 1) (hq : ∀ j, j < m + 1 → FA (fun b => N ≤ b) w ((fs ++ [f]).getD j fnil) (x.getD j 0)) : RowC w N m ⟨some ⟨g, 0, none⟩, m, cap, f⟩ x :=
  ⟨rfl, hx, ⟨g, cur, fs, rfl, hg, hb, hc, hl, fun j hj => by
    have h := hq j (by omega)
    rwa [List.getD_eq_getElem?_getD, List.getElem?_append_left (by omega), ← List.getD_eq_getElem?_getD] at h⟩, by
    have h := hq m (by omega)
    have e : (fs ++ [f]).getD m fnil = f := by rw [List.getD_eq_getElem?_getD, List.getElem?_append_right (by omega), hl, Nat.sub_self]; rfl
    rwa [e] at h⟩

/-- What the loop of Copied has. -/
structure CopI (w wr : World) (m : Nat) (ds : List Rd) (vo : Value) (rows : List Rw) (i : Nat) : Prop where
  own : OwnR wr w.heap.size vo rows
  len : rows.length = i
  row : ∀ k, k < i → RowC wr w.heap.size m (rows.getD k rwnil) (ds.getD k rnil).q
  bl : Below w.heap.size w wr
theorem CopI.next {w wr w1 w2 : World} {m : Nat} {ds : List Rd} {vo v' : Value} {rows : List Rw} {i : Nat} {r : Rw} (h : CopI w wr m ds vo rows i) (hb : Below wr.heap.size wr w1) (ho : OwnR w2 w.heap.size v' (rows ++ [r])) (hg : w1.grownBy w2 vo.ownBlock) (hr : RowC w2 w.heap.size m r (ds.getD i rnil).q) :
    CopI w w2 m ds v' (rows ++ [r]) (i + 1) :=
  ⟨ho, by rw [List.length_append, h.len]; rfl, fun k hk => by
    by_cases hki : k < i
    · rw [List.getD_eq_getElem?_getD, List.getElem?_append_left (by rw [h.len]; exact hki), ← List.getD_eq_getElem?_getD]
      exact (h.row k hki).keep h.bl.size h.own hb hg
    · have : k = i := by omega
      subst this
      have e : (rows ++ [r]).getD k rwnil = r := by
        rw [List.getD_eq_getElem?_getD, List.getElem?_append_right (by rw [h.len]; exact Nat.le_refl _), h.len, Nat.sub_self]; rfl
      rw [e]
      exact hr, h.bl.trans (grown_belR ⟨hb.os, hb.tape, hb.output, hb.size, fun k hk => hb.block k (by have := h.bl.size; omega)⟩ (h.own.below hb) hg h.bl.size)⟩

set_option maxRecDepth 100000 in
set_option maxHeartbeats 8000000 in
theorem copied_any {A : Option Addr} {m cap : Nat} {rs : List Rd} (w : World) (h : RdsAt w A rs) (hm : rs.length = m) (h40 : m ≤ 40) (hr : ∀ k, k < m → (rs.getD k rnil).R m) :
    Calls Tryz.prog 39 #[.slice A m cap] w fun e w' => ∃ (vo : Value) (rows : List Rw), e = .returned vo ∧ CopI w w' m rs vo rows m := by
  have HD := Lib.hid h; clear h
  have HM := Lib.hid hm; clear hm
  have HR := Lib.hid hr; clear hr
  have HST := Lib.hid (show CopI w w m rs (.slice none 0 0) [] 0 from ⟨OwnR.nil _ _, rfl, fun k hk => by omega, Below.refl _ _⟩)
  go_enter Tryz.func39, Tryz.ntmps39
  go_wp2_with fail
  go_loopw [4, 3] (fun iv vo wr => ∃ (i : Nat) (rows : List Rw), i ≤ m ∧ iv = .int .i64 i ∧ Hid (CopI w wr m rs vo rows i)) (fun iv _ _ => m - (intOf iv).toNat)
  case atStart => exact ⟨0, [], Nat.zero_le _, rfl, HST⟩
  case round =>
    obtain ⟨i, rows, hi, rfl, hI⟩ := hrel
    clear HST
    by_cases hgo : i < m
    · obtain ⟨bb, off, Aa, ca, f, hA, hBB0, c0, c1, c2, c3, c4, hla, hfa, hf⟩ := HD.out i (by rw [HM.out]; exact hgo)
      subst hA
      have hRi := HR.out i hgo
      obtain ⟨fs, hfl, hfc0, hfi⟩ := hfa.fcs
      have hqw : ∀ j, j < m + 1 → FA (fun b => w.heap.size ≤ b) w ((fs ++ [f]).getD j fnil) ((rs.getD i rnil).q.getD j 0) := fun j hj => row_fa (hfl.trans hRi.1) hRi hfi hf hj
      have hbl := hI.out.bl
      have hc : ∀ k, wr.cell? ⟨bb, k, none⟩ = w.cell? ⟨bb, k, none⟩ := fun k => hbl.cell (p := ⟨bb, k, none⟩) hBB0
      rw [← hc] at c0 c1 c2 c3 c4
      have hBB := Nat.lt_of_lt_of_le hBB0 hbl.size
      have hfc := hfc0.below hbl
      have hql := Lib.hid (show (rs.getD i rnil).q.length = m + 1 by unfold Rd.q; rw [List.length_append, List.length_map, hRi.1]; rfl)
      rw [hRi.1] at c0 hfl
      obtain ⟨s1, A1, n1, d1, s2, A2, n2, d2⟩ := f
      simp only at c1 c2 c3 c4
      have hqs := Lib.hid (fun j (hj : j < m + 1) => (hqw j hj).fr (Fr.of_below (S := fun b => w.heap.size ≤ b) ⟨hbl.os, hbl.tape, hbl.output, hbl.size, fun b hb => hbl.block b hb⟩))
      clear hqw hc hBB0 hfc0 hfa hf hfi
      obtain ⟨vo, hvo⟩ : ∃ v, u3 = v := ⟨_, rfl⟩
      rw [hvo] at hI ⊢
      clear hvo
      have HO := Lib.hid hI.out.own
      have hrl := hI.out.len
      have hN := Lib.hid hbl.size
      have e0 : ∀ W' : World, Below wr.heap.size wr W' → W'.cell? ⟨bb, off + i * 5, none⟩ = some (.slice Aa m ca) ∧ W'.cell? ⟨bb, off + i * 5 + 1, none⟩ = some (.int .i64 s1) ∧ W'.cell? ⟨bb, off + i * 5 + 2, none⟩ = some (.slice A1 n1 d1) ∧ W'.cell? ⟨bb, off + i * 5 + 3, none⟩ = some (.int .i64 s2) ∧ W'.cell? ⟨bb, off + i * 5 + 4, none⟩ = some (.slice A2 n2 d2) := fun W' hW =>
        ⟨(hW.cell (p := ⟨bb, _, none⟩) hBB).trans c0, (hW.cell (p := ⟨bb, _, none⟩) hBB).trans c1, (hW.cell (p := ⟨bb, _, none⟩) hBB).trans c2, (hW.cell (p := ⟨bb, _, none⟩) hBB).trans c3, (hW.cell (p := ⟨bb, _, none⟩) hBB).trans c4⟩
      have E0 := Lib.hid e0; clear e0
      have hB00 : Below wr.heap.size wr wr.drew := (Below.refl _ _).drew
      have HFC := Lib.hid (And.intro hfc hfl)
      clear hfc hfl hbl hRi
      have hB01 := below_new hB00 (.cells #[] 41)
      obtain ⟨x0, x1, x2, x3, x4⟩ := E0.out _ hB01
      go_upto_region 5 with fail
      go_region_law (first
        | (refine step_appF rfl (.tmp 12) (.tmp 17) rfl wr.heap.size _ [] fs Aa m ca (by simp [Act.eval]) (emptyF wr.drew (Nat.le_refl _)) (by simp [Act.eval]) HFC.out.2 (HFC.out.1.below hB01) (by simp; omega) (by simp) ?_; intro v4 w4 hown4 hg4 hat4; have hB4 : Below wr.heap.size wr w4 := grown_belF hB01 (emptyF wr.drew (Nat.le_refl _)) hg4 (Nat.le_refl _); obtain ⟨g4, cap4, cur4, hv4, hge4, hb4, hc4, -⟩ := hown4.blk (by rw [List.nil_append, HFC.out.2]; omega); rw [List.nil_append, HFC.out.2] at hv4; subst hv4; obtain ⟨t0, t1, t2, t3, t4⟩ := E0.out _ hB4)
        | (refine step_appR rfl (.tmp 11) (.tmp 25) rfl w.heap.size _ rows [⟨some ⟨g4, 0, none⟩, m, cap4, ⟨s1, A1, n1, d1, s2, A2, n2, d2⟩⟩] (some ⟨w4.heap.size, 0, none⟩) 1 1 (by simp [Act.eval]) ((HO.out.below hB4).below ((Below.refl _ _).alloc (Nat.le_refl _) _)) (by simp [Act.eval]) rfl (lit_rc w4 ⟨some ⟨g4, 0, none⟩, m, cap4, ⟨s1, A1, n1, d1, s2, A2, n2, d2⟩⟩) (by rw [hrl]; omega) (by have h1 := hB4.size; have h2 := hN.out; simp; omega) ?_; intro v5 w5 hown5 hg5 hat5))
      all_goals
        have hbX : Below wr.heap.size wr (w4.alloc (.cells #[.slice (some ⟨g4, 0, none⟩) m cap4, .int .i64 s1, .slice A1 n1 d1, .int .i64 s2, .slice A2 n2 d2] 43)) := below_new hB4 _
        rw [List.nil_append] at hc4
        have hr4 : RowC w4 w.heap.size m ⟨some ⟨g4, 0, none⟩, m, cap4, ⟨s1, A1, n1, d1, s2, A2, n2, d2⟩⟩ (rs.getD i rnil).q :=
          RowC.new (Nat.le_trans hN.out hge4) hb4 hc4 HFC.out.2 hql.out (fun j hj => (hqs.out j hj).below hB4)
        have hr5 := hr4.keep (Nat.le_trans hN.out hB4.size) (HO.out.below hB4) ((Below.refl _ _).alloc (Nat.le_refl _) _) hg5
        have hnx := Lib.hid (hI.out.next hbX hown5 hg5 hr5)
        clear hr4 hr5 hbX hown5 hg5 hat5 hb4 hc4 hown4 hg4 hat4 hB4 E0 HFC HO hqs hql hB01 hB00 c0 c1 c2 c3 c4 hI
        go_wp2_with fail
        go_roundw
        case rel => exact ⟨i + 1, _, by omega, rfl, hnx⟩
        case measure => simp [intOf]; omega
    · have : i = m := by omega
      subst this
      have hfin := Lib.hid hI.out
      clear hI
      go_wp2_with fail
      go_ret
      exact ⟨_, rows, rfl, hfin.out⟩

end Go.Proofs.YtgpmmpajnfbecaaGreat
