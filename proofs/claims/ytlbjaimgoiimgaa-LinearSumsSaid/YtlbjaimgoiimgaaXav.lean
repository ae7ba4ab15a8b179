/- Walk of number. append of rows. Walk of Copied. Walk of holds. Rows of the reference; what a loop over the elements of a row has. Walk of divided. -/
import Derived.Test.YtlbjaimgoiimgaaXau
import Derived.Deep.QuietTactic
import Derived.Test.YtlbjaimgoiimgaaXaq

namespace Go.Proofs.Ytlbjaimgoiimgaa
open Go.RowKit

set_option maxRecDepth 100000 in
set_option maxHeartbeats 4000000 in
theorem number_fr (k : Int) (w : World) (hk : isI k) (h1 : isI 1) (hb : ab k < pw 60) :
    Calls Try.prog 31 #[.int .i64 k] w fun e w' => ∃ f : Fc, e = .returned f.v ∧ FO w' w.heap.size f.v (k : Rat).num (k : Rat).den ∧ Rb (k : Rat) 60 60 ∧ Below w.heap.size w w' := by
  have HB := Lib.hid hb; clear hb
  go_enter Try.func31, Try.ntmps31
  go_wp2_with fail
  have hbA : Below w.heap.size w (w.alloc (.cells #[.int .i64 0, .slice none 0 0, .int .i64 0, .slice none 0 0] 40)) := (Below.refl _ _).alloc (Nat.le_refl _) _
  have kA := Blk.new w 40 #[.int .i64 0, .slice none 0 0, .int .i64 0, .slice none 0 0]
  obtain ⟨G, hG⟩ : ∃ G, w.heap.size = G := ⟨_, rfl⟩
  rw [hG] at kA ⊢
  generalize w.alloc (.cells #[.int .i64 0, .slice none 0 0, .int .i64 0, .slice none 0 0] 40) = W at *
  (with_reducible refine (fof_y k W hk h1 HB.out).mono ?_)
  rintro e u1 ⟨⟨r1, C1, l1, i1, r2, C2, l2, i2⟩, rfl, ho, rb, hb1⟩
  have q4 := kA.below hb1 kA.lt
  have hT := hbA.trans (hb1.mono hbA.size)
  have hge : w.heap.size ≤ G := by omega
  have hGl := q4.lt
  obtain ⟨V, hV, hbV, hsV, kV, _, hFO⟩ := putf (s := r1) (A := C1) (n := l1) (c := i1) (s' := r2) (A' := C2) (n' := l2) (c' := i2) q4 hT hge
  have hov := hFO _ _ _ _ ho kA.lt
  have hbW : Below V.heap.size V (V.alloc (.cells #[.int .i64 r1, .slice C1 l1 i1, .int .i64 r2, .slice C2 l2 i2] 40)) := (Below.refl _ _).alloc (Nat.le_refl _) _
  have HO := Lib.hid ((hov.below hbW).mono hbA.size)
  have HBV := Lib.hid (hbV.trans (hbW.mono hbV.size))
  have HRB := Lib.hid rb
  have kW := kV.below hbW kV.lt
  have r0' := q4.cell 0
  have r1' := q4.cell 1
  have r2' := q4.cell 2
  have r3' := q4.cell 3
  have f0 := q4.frozen 0
  have f1 := q4.frozen 1
  have f2 := q4.frozen 2
  have f3 := q4.frozen 3
  simp at r0' r1' r2' r3'
  have X0 := Lib.hid (kW.cell 0)
  have X1 := Lib.hid (kW.cell 1)
  have X2 := Lib.hid (kW.cell 2)
  have X3 := Lib.hid (kW.cell 3)
  clear kA ho rb q4 kV kW hov hFO hbW hbV hbA
  go_wp2_with fail
  rw [← hV]
  refine bodyPost_ret (v := .agg #[.int .i64 r1, .slice C1 l1 i1, .int .i64 r2, .slice C2 l2 i2]) (by simp [results, Try.results31, go_sem, X0.out, X1.out, X2.out, X3.out]) rfl ?_
  exact ⟨⟨r1, C1, l1, i1, r2, C2, l2, i2⟩, rfl, HO.out, HRB.out, HBV.out⟩

end Go.Proofs.Ytlbjaimgoiimgaa

namespace Go.Proofs.Ytlbjaimgoiimgaa
open Go.RowKit

theorem Try.infoRw : (Try.prog.info? 45).map (fun i => (i.zero, i.size, i.bytes)) = some (some (.agg #[.slice none 0 0, .int .i64 0, .slice none 0 0, .int .i64 0, .slice none 0 0]), 5, 88) := by kernel_rfl

/-- A row as it lies: the slice of its elements, and its value. -/
structure Rw where
  A : Option Addr
  n : Nat
  c : Nat
  f : Fc
abbrev rwnil : Rw := ⟨none, 0, 0, fnil⟩
abbrev Rw.v (r : Rw) : Value := .agg #[.slice r.A r.n r.c, .int .i64 r.f.s, .slice r.f.A r.f.n r.f.c, .int .i64 r.f.s', .slice r.f.A' r.f.n' r.f.c']
/-- The cells of rows, one behind the other. -/
def rcs (l : List Rw) : List Value := l.flatMap fun r => [.slice r.A r.n r.c, Value.int .i64 r.f.s, .slice r.f.A r.f.n r.f.c, .int .i64 r.f.s', .slice r.f.A' r.f.n' r.f.c']
theorem rcs_length (l : List Rw) : (rcs l).length = l.length * 5 := by
  induction l with
  | nil => rfl
  | cons p l ih => simp only [rcs, List.flatMap_cons, List.length_append, List.length_cons, List.length_nil] at ih ⊢; omega
theorem rcs_append (a b : List Rw) : rcs (a ++ b) = rcs a ++ rcs b := by simp [rcs]
/-- The five cells of a row, from a look-up. -/
def Five (look : Nat → Option Value) (i : Nat) (r : Rw) : Prop :=
  look i = some (.slice r.A r.n r.c) ∧ look (i + 1) = some (.int .i64 r.f.s) ∧ look (i + 2) = some (.slice r.f.A r.f.n r.f.c) ∧ look (i + 3) = some (.int .i64 r.f.s') ∧ look (i + 4) = some (.slice r.f.A' r.f.n' r.f.c')
theorem rcs_get (l : List Rw) (j : Nat) (h : j < l.length) : Five (fun i => (rcs l)[i]?) (j * 5) (l.getD j rwnil) := by
  induction l generalizing j with
  | nil => simp at h
  | cons p l ih =>
    cases j with
    | zero => simp [rcs, Five]
    | succ j =>
      have h1 := ih j (by simpa using h)
      have e : (j + 1) * 5 = j * 5 + 1 + 1 + 1 + 1 + 1 := by omega
      have e3 : ∀ l, rcs (p :: l) = .slice p.A p.n p.c :: Value.int .i64 p.f.s :: .slice p.f.A p.f.n p.f.c :: .int .i64 p.f.s' :: .slice p.f.A' p.f.n' p.f.c' :: rcs l := fun _ => rfl
      rw [e, e3, List.getD_cons_succ]
      simpa [Five] using h1
theorem rcs_oneCell (l : List Rw) : ∀ u ∈ rcs l, u.oneCell' = true := by
  intro u hu
  unfold rcs at hu
  obtain ⟨p, _, hp⟩ := List.mem_flatMap.1 hu
  simp at hp
  rcases hp with rfl | rfl | rfl | rfl | rfl <;> rfl

/-- Rows at address A, as they lie. -/
def RcAt (w : World) (A : Option Addr) (rs : List Rw) : Prop := ∀ k, k < rs.length → ∃ (b off : Nat), A = some ⟨b, off, none⟩ ∧ b < w.heap.size ∧ Five (fun i => w.cell? ⟨b, off + i, none⟩) (k * 5) (rs.getD k rwnil)
theorem RcAt.below {w w' : World} {A : Option Addr} {rs : List Rw} (h : RcAt w A rs) (hb : Below w.heap.size w w') : RcAt w' A rs := fun k hk => by
  obtain ⟨b, off, e, hB, h0, h1, h2, h3, h4⟩ := h k hk
  have hc : ∀ i, w'.cell? ⟨b, i, none⟩ = w.cell? ⟨b, i, none⟩ := fun i => hb.cell (p := ⟨b, i, none⟩) hB
  exact ⟨b, off, e, Nat.lt_of_lt_of_le hB hb.size, (hc _).trans h0, (hc _).trans h1, (hc _).trans h2, (hc _).trans h3, (hc _).trans h4⟩
/-- The rows of a slice at address A, each with what it says. -/
structure RwIs (w : World) (r : Rw) (d : Rd) : Prop where
  n : r.n = d.A.length
  lim : d.A.length ≤ 1000000
  a : FdsAt w r.A d.A
  v : FdIs w r.f d.v
theorem RwIs.below {w w' : World} {r : Rw} {d : Rd} (h : RwIs w r d) (hb : Below w.heap.size w w') : RwIs w' r d := ⟨h.n, h.lim, h.a.below hb, h.v.below hb⟩
theorem RdsAt.rcs {w : World} {A : Option Addr} {ds : List Rd} (h : RdsAt w A ds) : ∃ rs : List Rw, rs.length = ds.length ∧ RcAt w A rs ∧ ∀ k, k < ds.length → RwIs w (rs.getD k rwnil) (ds.getD k rnil) := by
  have h' : ∀ k, ∃ r : Rw, k < ds.length → ∃ (b off : Nat), A = some ⟨b, off, none⟩ ∧ b < w.heap.size ∧ Five (fun i => w.cell? ⟨b, off + i, none⟩) (k * 5) r ∧ RwIs w r (ds.getD k rnil) := fun k => by
    by_cases hk : k < ds.length
    · obtain ⟨b, off, Aa, ca, f, e, hB, h0, h1, h2, h3, h4, h5, h6, h7⟩ := h k hk
      exact ⟨⟨Aa, _, ca, f⟩, fun _ => ⟨b, off, e, hB, ⟨h0, h1, h2, h3, h4⟩, rfl, h5, h6, h7⟩⟩
    · exact ⟨rwnil, fun hk' => absurd hk' hk⟩
  obtain ⟨F, hF⟩ := Classical.axiomOfChoice h'
  have e : ∀ k, k < ds.length → ((List.range ds.length).map F).getD k rwnil = F k := fun k hk => by simp [List.getD_eq_getElem?_getD, hk]
  refine ⟨(List.range ds.length).map F, by simp, ?_, ?_⟩
  · intro k hk
    rw [List.length_map, List.length_range] at hk
    rw [e k hk]
    obtain ⟨b, off, h1, h2, h3, _⟩ := hF k hk
    exact ⟨b, off, h1, h2, h3⟩
  · intro k hk
    rw [e k hk]
    obtain ⟨b, off, h1, h2, h3, h4⟩ := hF k hk
    exact h4

/-- A slice value v of rows, owned from block B on. -/
def OwnR (w : World) (B : Nat) (v : Value) (rs : List Rw) : Prop := w.ownsRow B 45 5 v rs.length (rcs rs)
section
variable {w w' : World} {B B' : Nat} {v : Value} {rs : List Rw}
theorem OwnR.nil (w : World) (B : Nat) : OwnR w B (.slice none 0 0) [] := World.ownsRow_nil w B 45 5
theorem OwnR.below (h : OwnR w B v rs) (hb : Below w.heap.size w w') : OwnR w' B v rs :=
  World.ownsRow.kept (row := none) h ⟨hb.os, hb.tape, hb.output, hb.size, fun k hk _ => hb.block k hk⟩ (by cases v.ownBlock <;> simp)
theorem OwnR.mono (h : OwnR w B v rs) (hb : B' ≤ B) : OwnR w B' v rs := World.ownsRow.mono h hb
theorem OwnR.lt {g n cap : Nat} (h : OwnR w B (.slice (some ⟨g, 0, none⟩) n cap) rs) : B ≤ g ∧ g < w.heap.size := World.ownsRow.lt h g rfl
/-- The cells of a block of rows. -/
def CellsR (cur : Array Value) (rs : List Rw) : Prop := ∀ k, k < rs.length → Five (fun i => cur[i]?) (k * 5) (rs.getD k rwnil)
/-- The block of one that is not empty. -/
theorem OwnR.blk (h : OwnR w B v rs) (hn : 0 < rs.length) : ∃ g cap cur, v = .slice (some ⟨g, 0, none⟩) rs.length cap ∧ B ≤ g ∧ Blk w g 45 cur ∧ CellsR cur rs ∧ rs.length ≤ cap ∧ cap ≤ maxLen := by
  have hh := h
  rcases h.2 with ⟨rfl, h0⟩ | ⟨g, cap, cur, rfl, hb, hg, hnc, hcm, hcs, htake⟩
  · omega
  · refine ⟨g, cap, cur, rfl, hb, hg, fun k hk => ?_, hnc, hcm⟩
    obtain ⟨f0, f1, f2, f3, f4⟩ := rcs_get rs k hk
    have hc : ∀ j, j < rs.length * 5 → cur[j]? = (rcs rs)[j]? := fun j hj => by
      rw [← htake, List.getElem?_take, if_pos hj]
      simp
    exact ⟨(hc _ (by omega)).trans f0, (hc _ (by omega)).trans f1, (hc _ (by omega)).trans f2, (hc _ (by omega)).trans f3, (hc _ (by omega)).trans f4⟩
theorem OwnR.at_ (h : OwnR w B v rs) : ∃ A c, v = .slice A rs.length c ∧ rs.length ≤ c ∧ c ≤ 9223372036854775807 ∧ RcAt w A rs := by
  rcases h.2 with ⟨rfl, hn⟩ | ⟨g, cap, cur, rfl, hb, hg, hnc, hcm, hcs, htake⟩
  · have : rs = [] := List.eq_nil_of_length_eq_zero hn
    subst this
    exact ⟨none, 0, rfl, by simp, by omega, fun k hk => by cases hk⟩
  · refine ⟨_, cap, rfl, by omega, by unfold maxLen at hcm; omega, fun k hk => ⟨g, 0, rfl, (Array.getElem?_eq_some_iff.1 hg).1, ?_⟩⟩
    obtain ⟨f0, f1, f2, f3, f4⟩ := rcs_get rs k hk
    simp only at f0 f1 f2 f3 f4
    unfold Five
    simp only [Nat.zero_add]
    rw [World.ownsRow.cellAt h (k * 5) (by omega), World.ownsRow.cellAt h (k * 5 + 1) (by omega), World.ownsRow.cellAt h (k * 5 + 2) (by omega), World.ownsRow.cellAt h (k * 5 + 3) (by omega), World.ownsRow.cellAt h (k * 5 + 4) (by omega)]
    exact ⟨f0, f1, f2, f3, f4⟩
end
theorem rc_src {w : World} {ad : Addr} {rs : List Rw} (h : RcAt w (some ad) rs) : ∀ j u, (rcs rs)[j]? = some u → w.cell? (ad.add j) = some u := fun j u hj => by
  have hlt := (List.getElem?_eq_some_iff.1 hj).1
  rw [rcs_length] at hlt
  obtain ⟨b, off, e, _, h0, h1, h2, h3, h4⟩ := h (j / 5) (by omega)
  injection e with e
  subst e
  obtain ⟨f0, f1, f2, f3, f4⟩ := rcs_get rs (j / 5) (by omega)
  simp only at h0 h1 h2 h3 h4 f0 f1 f2 f3 f4
  rw [← f0] at h0
  rw [← f1] at h1
  rw [← f2] at h2
  rw [← f3] at h3
  rw [← f4] at h4
  rw [Go.WideShapes.add_plain, ← hj]
  rcases (show j = j / 5 * 5 ∨ j = j / 5 * 5 + 1 ∨ j = j / 5 * 5 + 2 ∨ j = j / 5 * 5 + 3 ∨ j = j / 5 * 5 + 4 by omega) with e | e | e | e | e
  · rw [← e] at h0; rw [← h0]
  · rw [← e] at h1; rw [← h1]
  · rw [← e] at h2; rw [← h2]
  · rw [← e] at h3; rw [← h3]
  · rw [← e] at h4; rw [← h4]

theorem run_appR (w : World) (ty : TypeId) (B : Nat) (v : Value) (ds es : List Rw) (A : Option Addr) (m c : Nat) (hown : OwnR w B v ds) (hm : es.length = m) (hsrc : RcAt w A es) (hb : ds.length + m ≤ 1000000) (hbase : B ≤ w.heap.size) :
    ∃ v' w', (Builtin.append_ #[22, 22] ty #[v, .slice A m c]).run Try.prog w = .ok v' w' ∧ OwnR w' B v' (ds ++ es) ∧ w.grownBy w' v.ownBlock ∧ (v'.ownBlock = v.ownBlock ∨ v'.ownBlock = some w.heap.size) := by
  obtain ⟨i0, hi, hz0, hz1, hz2⟩ := info_parts Try.infoRw
  subst hm
  have hpl := rcs_length es
  cases A with
  | some ad =>
    obtain ⟨v', w', a1, a2, a3, _, a4⟩ := run_append_own_at (P := Try.prog) w B 22 ty 45 i0 (.agg #[.slice none 0 0, .int .i64 0, .slice none 0 0, .int .i64 0, .slice none 0 0]) 5 88 Try.underlying22 hi hz0 hz1 hz2 rfl (by decide) v ds.length (rcs ds) hown ad es.length c (rcs es) hpl (rc_src hsrc) (rcs_oneCell es) (by unfold maxLen; omega) (by omega) hbase
    refine ⟨v', w', a1, ?_, a3, a4⟩
    unfold OwnR
    rw [List.length_append, rcs_append]
    exact a2
  | none =>
    have he : es = [] := by
      cases es with
      | nil => rfl
      | cons d es => obtain ⟨b, off, e, _⟩ := hsrc 0 (by simp); cases e
    subst he
    refine ⟨v, w, ?_, by rw [List.append_nil]; exact hown, ⟨rfl, rfl, rfl, Nat.le_refl _, fun _ _ _ => rfl⟩, .inl rfl⟩
    rcases hown.2 with ⟨rfl, hn⟩ | ⟨g, cap, cur, rfl, _, _, hnc, _⟩
    · simp [Builtin.append_, run_underlying Try.underlying22, sizeOf, typeInfo, hi, Builtin.lenOf, Builtin.firstCells]
    · simp [Builtin.append_, run_underlying Try.underlying22, sizeOf, typeInfo, hi, Builtin.lenOf, Builtin.firstCells, loadCells, hnc, storeCells]

/-- append at a step of a region that draws its order. -/
theorem step_appR {w : World} {ops : Array Oper} {o : Oper} {a : Act} {K : Act → World → Prop} {Q : Exit → Act → World → Prop} {E : Prop} (hgd : o.guard = none) (s x : Operand)
    (ho : o.op = .call { callee := .builtin .append, args := #[s, x], argTypes := #[22, 22] })
    (B : Nat) (v : Value) (ds es : List Rw) (A : Option Addr) (m c : Nat) (hs : a.eval s = v) (hown : OwnR w B v ds)
    (hx : a.eval x = .slice A m c) (hm : es.length = m) (hsrc : RcAt w A es) (hb : ds.length + m ≤ 1000000) (hbase : B ≤ w.heap.size)
    (h : ∀ v' w', OwnR w' B v' (ds ++ es) → w.grownBy w' v.ownBlock → (v'.ownBlock = v.ownBlock ∨ v'.ownBlock = some w.heap.size) → K (a.put o.dst v') w') :
    if Region.wanted o (yielded ops a.tmps) = true then Oper.wp Try.prog o a w K Q else E := by
  have hw : Region.wanted o (yielded ops a.tmps) = true := by simp [Region.wanted, hgd]
  rw [if_pos hw]
  obtain ⟨v', w', hr, h2, h3, h4⟩ := run_appR w o.type B v ds es A m c hown hm hsrc hb hbase
  unfold Oper.wp execOp
  simp only [ho, resolve, invoke, builtin, Sem.run_bind, Sem.run_pure, Result.andThen_ok, List.map_toArray, List.map_cons, List.map_nil, hs, hx, hr]
  exact h v' w' h2 h3 h4
theorem appR_at {w : World} {ops : Array Oper} {rest : List Oper} {o : Oper} {a : Act} {Q : Exit → Act → World → Prop} (hgd : o.guard = none) (s x : Operand)
    (ho : o.op = .call { callee := .builtin .append, args := #[s, x], argTypes := #[22, 22] })
    (B : Nat) (v : Value) (ds es : List Rw) (A : Option Addr) (m c : Nat) (hs : a.eval s = v) (hown : OwnR w B v ds)
    (hx : a.eval x = .slice A m c) (hm : es.length = m) (hsrc : RcAt w A es) (hb : ds.length + m ≤ 1000000) (hbase : B ≤ w.heap.size)
    (h : ∀ v' w', OwnR w' B v' (ds ++ es) → w.grownBy w' v.ownBlock → (v'.ownBlock = v.ownBlock ∨ v'.ownBlock = some w.heap.size) → wpList Try.prog ops Q rest (a.put o.dst v') w') : wpList Try.prog ops Q (o :: rest) a w := by
  obtain ⟨v', w', hr, h2, h3, h4⟩ := run_appR w o.type B v ds es A m c hown hm hsrc hb hbase
  refine wpList_plain hgd fun K' hK' => ?_
  unfold Oper.wp execOp
  simp only [ho, resolve, invoke, builtin, Sem.run_bind, Sem.run_pure, Result.andThen_ok, List.map_toArray, List.map_cons, List.map_nil, hs, hx, hr]
  exact hK' _ _ (h v' w' h2 h3 h4)
theorem grown_belR {B : Nat} {w0 w w' : World} {v : Value} {ds : List Rw} (h : Below B w0 w) (hown : OwnR w B v ds) (hg : w.grownBy w' v.ownBlock) (hB : B ≤ w0.heap.size) : Below B w0 w' :=
  ⟨hg.os.trans h.os, hg.tape.trans h.tape, hg.output.trans h.output, Nat.le_trans h.size hg.size, fun k hk => (hg.block k (by have := h.size; omega) (fun e => by have := (World.ownsRow.lt hown k e.symm).1; omega)).trans (h.block k hk)⟩
theorem emptyR (w : World) {B : Nat} (hB : B ≤ w.heap.size) : OwnR (w.alloc (.cells #[] 45)) B (.slice (some ⟨w.heap.size, 0, none⟩) 0 0) [] :=
  ⟨rfl, .inr ⟨w.heap.size, 0, #[], rfl, hB, heap_alloc_new w _, Nat.le_refl _, Nat.zero_le _, rfl, rfl⟩⟩
/-- What append leaves alone. -/
theorem grown_frR {B : Nat} {w0 w w' : World} {v : Value} {ds : List Rw} (h : Below w0.heap.size w0 w) (hown : OwnR w B v ds) (hg : w.grownBy w' v.ownBlock) (hB : B ≤ w0.heap.size) : Below B w0 w' :=
  grown_belR ⟨h.os, h.tape, h.output, h.size, fun k hk => h.block k (by omega)⟩ hown hg hB
/-- A literal of one row. -/
theorem lit_rc (w : World) (r : Rw) : RcAt (w.alloc (.cells #[.slice r.A r.n r.c, .int .i64 r.f.s, .slice r.f.A r.f.n r.f.c, .int .i64 r.f.s', .slice r.f.A' r.f.n' r.f.c'] 45)) (some ⟨w.heap.size, 0, none⟩) [r] := fun k hk => by
  have : k = 0 := by simpa using hk
  subst this
  have h := Blk.new w 45 #[.slice r.A r.n r.c, .int .i64 r.f.s, .slice r.f.A r.f.n r.f.c, .int .i64 r.f.s', .slice r.f.A' r.f.n' r.f.c']
  exact ⟨_, 0, rfl, h.lt, (h.cell 0), (h.cell 1), (h.cell 2), (h.cell 3), (h.cell 4)⟩

end Go.Proofs.Ytlbjaimgoiimgaa

namespace Go.Proofs.Ytlbjaimgoiimgaa
open Go.RowKit

/-- A row that was copied: its elements in a block of their own. -/
structure RowC (w : World) (N m : Nat) (r : Rw) (x : List Rat) : Prop where
  n : r.n = m
  len : x.length = m + 1
  a : ∃ (g : Nat) (cur : Array Value) (fs : List Fc), r.A = some ⟨g, 0, none⟩ ∧ N ≤ g ∧ Blk w g 40 cur ∧ CellsL cur fs ∧ fs.length = m ∧ ∀ j, j < m → FA (fun b => N ≤ b) w (fs.getD j fnil) (x.getD j 0)
  v : FA (fun b => N ≤ b) w r.f (x.getD m 0)
theorem OwnR.not_frac {w : World} {N g : Nat} {vo : Value} {rows : List Rw} {cur : Array Value} (ho : OwnR w N vo rows) (hb : Blk w g 40 cur) : some g ≠ vo.ownBlock := fun e => by
  rcases ho.2 with ⟨rfl, _⟩ | ⟨g', cap, cur', rfl, _, hg, _⟩
  · cases e
  · simp [Value.ownBlock] at e
    subst e
    have h := hb
    unfold Blk at h
    rw [hg] at h
    injection h with h
    injection h with _ h
    cases h
theorem RowC.keep {w w1 w2 : World} {N m : Nat} {r : Rw} {x : List Rat} {vo : Value} {rows : List Rw} (h : RowC w N m r x) (hN : N ≤ w.heap.size) (ho : OwnR w N vo rows) (hb : Below w.heap.size w w1) (hg : w1.grownBy w2 vo.ownBlock) : RowC w2 N m r x := by
  have hbN : Below N w w2 := grown_belR ⟨hb.os, hb.tape, hb.output, hb.size, fun k hk => hb.block k (by omega)⟩ (ho.below hb) hg hN
  have hF : Fr (fun b => N ≤ b) w w2 := ⟨hbN.os, hbN.tape, hbN.output, hbN.size, fun b _ hn => hbN.block b (by omega)⟩
  obtain ⟨g, cur, fs, hA, hg1, hB, hC, hl, hf⟩ := h.a
  have hB2 : Blk w2 g 40 cur := (hg.block g (by have := hB.lt; have := hb.size; omega) (ho.not_frac hB)).trans (hB.below hb hB.lt)
  exact ⟨h.n, h.len, ⟨g, cur, fs, hA, hg1, hB2, hC, hl, fun j hj => (hf j hj).fr hF⟩, h.v.fr hF⟩

theorem RowC.new {w : World} {N m g cap : Nat} {cur : Array Value} {fs : List Fc} {f : Fc} {x : List Rat} (hg : N ≤ g) (hb : Blk w g 40 cur) (hc : CellsL cur fs) (hl : fs.length = m) (hx : x.length = m + 1) (hq : ∀ j, j < m + 1 → FA (fun b => N ≤ b) w ((fs ++ [f]).getD j fnil) (x.getD j 0)) : RowC w N m ⟨some ⟨g, 0, none⟩, m, cap, f⟩ x :=
  ⟨rfl, hx, ⟨g, cur, fs, rfl, hg, hb, hc, hl, fun j hj => by
    have h := hq j (by omega)
    rwa [List.getD_eq_getElem?_getD, List.getElem?_append_left (by omega), ← List.getD_eq_getElem?_getD] at h⟩, by
    have h := hq m (by omega)
    have e : (fs ++ [f]).getD m fnil = f := by rw [List.getD_eq_getElem?_getD, List.getElem?_append_right (by omega), hl, Nat.sub_self]; rfl
    rwa [e] at h⟩

/-- What the loop of Copied has. -/
structure CopI (w wr : World) (m : Nat) (ds : List Rd) (vo : Value) (rows : List Rw) (i : Nat) : Prop where
  own : OwnR wr w.heap.size vo rows
  len : rows.length = i
  row : ∀ k, k < i → RowC wr w.heap.size m (rows.getD k rwnil) (ds.getD k rnil).q
  bl : Below w.heap.size w wr
theorem CopI.next {w wr w1 w2 : World} {m : Nat} {ds : List Rd} {vo v' : Value} {rows : List Rw} {i : Nat} {r : Rw} (h : CopI w wr m ds vo rows i) (hb : Below wr.heap.size wr w1) (ho : OwnR w2 w.heap.size v' (rows ++ [r])) (hg : w1.grownBy w2 vo.ownBlock) (hr : RowC w2 w.heap.size m r (ds.getD i rnil).q) :
    CopI w w2 m ds v' (rows ++ [r]) (i + 1) :=
  ⟨ho, by rw [List.length_append, h.len]; rfl, fun k hk => by
    by_cases hki : k < i
    · rw [List.getD_eq_getElem?_getD, List.getElem?_append_left (by rw [h.len]; exact hki), ← List.getD_eq_getElem?_getD]
      exact (h.row k hki).keep h.bl.size h.own hb hg
    · have : k = i := by omega
      subst this
      have e : (rows ++ [r]).getD k rwnil = r := by
        rw [List.getD_eq_getElem?_getD, List.getElem?_append_right (by rw [h.len]; exact Nat.le_refl _), h.len, Nat.sub_self]; rfl
      rw [e]
      exact hr, h.bl.trans (grown_belR ⟨hb.os, hb.tape, hb.output, hb.size, fun k hk => hb.block k (by have := h.bl.size; omega)⟩ (h.own.below hb) hg h.bl.size)⟩

end Go.Proofs.Ytlbjaimgoiimgaa

namespace Go.Proofs.Ytlbjaimgoiimgaa
open Go.RowKit

/-- The sum of the first products, if there is room. -/
def sumTo (us xs : List Rat) : Nat → Option Rat
  | 0 => some 0
  | k + 1 => (sumTo us xs k).bind fun s => (oMul (us.getD k 0) (xs.getD k 0)).bind (oAdd s)
theorem sumTo_no {us xs : List Rat} {k n : Nat} (h : sumTo us xs k = none) (hk : k ≤ n) : sumTo us xs n = none := by
  induction n with
  | zero => have : k = 0 := by omega
            subst this; exact h
  | succ n ih =>
    by_cases hkn : k ≤ n
    · rw [sumTo, ih hkn]; rfl
    · have : k = n + 1 := by omega
      subst this; exact h
theorem sumTo_mul {us xs : List Rat} {k : Nat} {s a x : Rat} (h : sumTo us xs k = some s) (ha : us.getD k 0 = a) (hx : xs.getD k 0 = x) (hm : ¬ okMul a x) : sumTo us xs (k + 1) = none := by
  rw [sumTo, h, Option.bind_some, ha, hx, oMul_no hm]; rfl
theorem oAdd_yes {x y : Rat} (h : okAdd x y) : oAdd x y = some (x + y) := if_pos h
theorem oAdd_no {x y : Rat} (h : ¬ okAdd x y) : oAdd x y = none := if_neg h
theorem sumTo_add {us xs : List Rat} {k : Nat} {s a x : Rat} (h : sumTo us xs k = some s) (ha : us.getD k 0 = a) (hx : xs.getD k 0 = x) (hm : okMul a x) (hs : ¬ okAdd s (a * x)) : sumTo us xs (k + 1) = none := by
  rw [sumTo, h, Option.bind_some, ha, hx, oMul_yes hm, Option.bind_some, oAdd_no hs]
theorem sumTo_yes {us xs : List Rat} {k : Nat} {s a x : Rat} (h : sumTo us xs k = some s) (ha : us.getD k 0 = a) (hx : xs.getD k 0 = x) (hm : okMul a x) (hs : okAdd s (a * x)) : sumTo us xs (k + 1) = some (s + a * x) := by
  rw [sumTo, h, Option.bind_some, ha, hx, oMul_yes hm, Option.bind_some, oAdd_yes hs]
theorem q_getD {l : List Fd} {i : Nat} (h : i < l.length) : (l.map Fd.q).getD i 0 = (l.getD i dnil).q := by
  rw [List.getD_eq_getElem?_getD, List.getD_eq_getElem?_getD, List.getElem?_map]
  rw [List.getElem?_eq_getElem h]
  rfl

theorem number_0 (w : World) : Calls Try.prog 31 #[.int .i64 0] w fun e w' => ∃ f : Fc, e = .returned f.v ∧ FO w' w.heap.size f.v (0 : Rat).num (0 : Rat).den ∧ Rb (0 : Rat) 60 60 ∧ Below w.heap.size w w' :=
  (number_fr 0 w (by decide) (by decide) (by rw [ab_zero]; exact pw_pos 60)).mono fun _ _ h => h
theorem number_1 (w : World) : Calls Try.prog 31 #[.int .i64 1] w fun e w' => ∃ f : Fc, e = .returned f.v ∧ FO w' w.heap.size f.v (1 : Rat).num (1 : Rat).den ∧ Rb (1 : Rat) 60 60 ∧ Below w.heap.size w w' :=
  (number_fr 1 w (by decide) (by decide) (by decide)).mono fun _ _ h => h

/-- What the loop of holds has. -/
structure HoI (w wr : World) (G2 G5 : Nat) (row : Array Value) (f : Fc) (us xs : List Rat) (s : Rat) (i : Nat) : Prop where
  bl : Below w.heap.size w wr
  k2 : Blk wr G2 45 row
  k5 : Blk wr G5 40 #[.int .i64 f.s, .slice f.A f.n f.c, .int .i64 f.s', .slice f.A' f.n' f.c']
  h2 : w.heap.size ≤ G2
  h5 : G2 < G5
  fa : FA (fun b => b = G5) wr f s
  run : sumTo us xs i = some s
theorem HoI.below {w wr wq : World} {G2 G5 : Nat} {row : Array Value} {f : Fc} {us xs : List Rat} {s : Rat} {i : Nat} (h : HoI w wr G2 G5 row f us xs s i) (hb : Below wr.heap.size wr wq) : HoI w wq G2 G5 row f us xs s i :=
  ⟨h.bl.trans (hb.mono h.bl.size), h.k2.below hb h.k2.lt, h.k5.below hb h.k5.lt, h.h2, h.h5, h.fa.below hb, h.run⟩
theorem st4_block {w : World} {g b p q r t : Nat} {u0 u1 u2 u3 : Value} (h : b ≠ g) : ((((w.setCell ⟨g, p, none⟩ u0).setCell ⟨g, q, none⟩ u1).setCell ⟨g, r, none⟩ u2).setCell ⟨g, t, none⟩ u3).heap[b]? = w.heap[b]? :=
  (Below.heap_setCell _ _ _ b h).trans ((Below.heap_setCell _ _ _ b h).trans ((Below.heap_setCell _ _ _ b h).trans (Below.heap_setCell _ _ _ b h)))
/-- The sum is stored. -/
theorem HoI.put {w wr w1 : World} {G2 G5 : Nat} {row : Array Value} {f q : Fc} {us xs : List Rat} {s s' : Rat} {i : Nat} (h : HoI w wr G2 G5 row f us xs s i) (hb : Below wr.heap.size wr w1) (ho : FO w1 wr.heap.size q.v s'.num s'.den) (hr : Rb s' 60 60) (hrun : sumTo us xs (i + 1) = some s') :
    HoI w ((((w1.setCell ⟨G5, 0, none⟩ (.int .i64 q.s)).setCell ⟨G5, 1, none⟩ (.slice q.A q.n q.c)).setCell ⟨G5, 2, none⟩ (.int .i64 q.s')).setCell ⟨G5, 3, none⟩ (.slice q.A' q.n' q.c')) G2 G5 row q us xs s' (i + 1) :=
  ⟨below_st4 (h.bl.trans (hb.mono h.bl.size)) (by have := h.h2; have := h.h5; omega) _ _ _ _, (st4_block (by have := h.h5; omega)).trans (h.k2.below hb h.k2.lt), (h.k5.below hb h.k5.lt).set4 _ _ _ _, h.h2, h.h5,
    fa_st (f := q) (N := wr.heap.size) (h.k5.below hb h.k5.lt) ho h.k5.lt (fun b hb => by subst hb; exact h.k5.lt) (Nat.le_refl _) hr, hrun⟩

set_option maxRecDepth 100000 in
set_option maxHeartbeats 8000000 in
theorem lholds_any {Aa Ax : Option Addr} {n ca cx : Nat} {us xs : List Fd} {f : Fc} {d : Fd} (w : World) (ha : FdsAt w Aa us) (han : us.length = n) (hx : FdsAt w Ax xs) (hxn : xs.length = n) (hn : n ≤ 1000) (hf : FdIs w f d)
    (hra : ∀ k, k < n → (us.getD k dnil).R) (hrx : ∀ k, k < n → (xs.getD k dnil).R) (hrd : d.R) :
    Calls Try.prog 32 #[.agg #[.slice Aa n ca, .int .i64 f.s, .slice f.A f.n f.c, .int .i64 f.s', .slice f.A' f.n' f.c'], .slice Ax n cx] w fun e w' => e = .returned (.bool (decide (sumTo (us.map Fd.q) (xs.map Fd.q) n = some d.q))) ∧ Below w.heap.size w w' := by
  have HU := Lib.hid ha; clear ha
  have HX := Lib.hid hx; clear hx
  have HUN := Lib.hid han; clear han
  have HXN := Lib.hid hxn; clear hxn
  have HF := Lib.hid (fd_fa hf hrd); clear hf
  have HRA := Lib.hid hra; clear hra
  have HRX := Lib.hid hrx; clear hrx
  obtain ⟨s1, A1, n1, c1, s2, A2, n2, c2⟩ := f
  obtain ⟨B, hB⟩ : ∃ B, decide (sumTo (us.map Fd.q) (xs.map Fd.q) n = some d.q) = B := ⟨_, rfl⟩
  simp only [hB]
  have HB := Lib.hid hB; clear hB
  go_enter Try.func32, Try.ntmps32
  go_wp2_with fail
  have hb0 : Below w.heap.size w (w.alloc (.cells #[.slice Aa n ca, .int .i64 s1, .slice A1 n1 c1, .int .i64 s2, .slice A2 n2 c2] 45)) := (Below.refl _ _).alloc (Nat.le_refl _) _
  have k0 := Blk.new w 45 #[.slice Aa n ca, .int .i64 s1, .slice A1 n1 c1, .int .i64 s2, .slice A2 n2 c2]
  generalize w.alloc (.cells #[.slice Aa n ca, .int .i64 s1, .slice A1 n1 c1, .int .i64 s2, .slice A2 n2 c2] 45) = W0 at *
  (with_reducible refine (number_0 _).mono ?_)
  rintro e w1 ⟨⟨t1, B1, m1, e1, t2, B2, m2, e2⟩, rfl, ho, rb, hb1⟩
  have k1 := k0.below hb1 k0.lt
  have hbl1 := hb0.trans (hb1.mono hb0.size)
  have hbA : Below w1.heap.size w1 (w1.alloc (.cells #[.int .i64 t1, .slice B1 m1 e1, .int .i64 t2, .slice B2 m2 e2] 40)) := (Below.refl _ _).alloc (Nat.le_refl _) _
  have hst : HoI w (w1.alloc (.cells #[.int .i64 t1, .slice B1 m1 e1, .int .i64 t2, .slice B2 m2 e2] 40)) w.heap.size w1.heap.size #[.slice Aa n ca, .int .i64 s1, .slice A1 n1 c1, .int .i64 s2, .slice A2 n2 c2] ⟨t1, B1, m1, e1, t2, B2, m2, e2⟩ (us.map Fd.q) (xs.map Fd.q) 0 0 :=
    ⟨hbl1.trans (hbA.mono hbl1.size), k1.below hbA k1.lt, Blk.new _ _ _, Nat.le_refl _, k1.lt, ((FA.own (S := fun _ => False) (f := ⟨t1, B1, m1, e1, t2, B2, m2, e2⟩) ho (fun _ h => h.elim) rb).up.less (fun b hb => .inr (Nat.le_of_eq hb.symm))).below hbA, rfl⟩
  have HST := Lib.hid hst
  obtain ⟨G2, hG2⟩ : ∃ G, w.heap.size = G := ⟨_, rfl⟩
  obtain ⟨G5, hG5⟩ : ∃ G, w1.heap.size = G := ⟨_, rfl⟩
  rw [hG2, hG5] at HST
  rw [hG2]
  clear hst hbA hbl1 k1 hb1 ho rb k0 hb0
  obtain ⟨W1, hW1⟩ : ∃ W, w1.alloc (.cells #[.int .i64 t1, .slice B1 m1 e1, .int .i64 t2, .slice B2 m2 e2] 40) = W := ⟨_, rfl⟩
  rw [hW1] at HST
  have r0 := HST.out.k2.cell 0
  simp at r0
  go_wp2_with fail
  clear r0 hW1 hG5
  go_loopw [14] (fun iv wr => ∃ (i : Nat) (s : Rat) (f : Fc), i ≤ n ∧ iv = .int .i64 i ∧ Hid (HoI w wr G2 G5 #[.slice Aa n ca, .int .i64 s1, .slice A1 n1 c1, .int .i64 s2, .slice A2 n2 c2] f (us.map Fd.q) (xs.map Fd.q) s i)) (fun iv _ => n - (intOf iv).toNat)
  case atStart => exact ⟨0, 0, _, Nat.zero_le _, rfl, HST⟩
  case round =>
    obtain ⟨i, s, f, hi, rfl, hI⟩ := hrel
    clear HST
    by_cases hgo : i < n
    · obtain ⟨ba, offa, fa, hA, hBa, c0, c1, c2, c3, hfa⟩ := (HU.out.below hI.out.bl) i (by rw [HUN.out]; exact hgo)
      subst hA
      have hra := HRA.out i hgo
      obtain ⟨s3, A3, n3, e3, s4, A4, n4, e4⟩ := fa
      simp only at c0 c1 c2 c3
      have haF := (fd_fa hfa hra)
      have hbA : Below wr.heap.size wr (wr.alloc (.cells #[.int .i64 s3, .slice A3 n3 e3, .int .i64 s4, .slice A4 n4 e4] 40)) := (Below.refl _ _).alloc (Nat.le_refl _) _
      have kA := Blk.new wr 40 #[.int .i64 s3, .slice A3 n3 e3, .int .i64 s4, .slice A4 n4 e4]
      have hIA := hI.out.below hbA
      have haA := haF.below hbA
      clear hfa haF hI
      go_wp2_with fail
      clear c0 c1 c2 c3
      obtain ⟨GA, hGA⟩ : ∃ G, wr.heap.size = G := ⟨_, rfl⟩
      rw [hGA] at kA ⊢
      generalize wr.alloc (.cells #[.int .i64 s3, .slice A3 n3 e3, .int .i64 s4, .slice A4 n4 e4] 40) = W2 at *
      clear hGA hbA
      have hIA' := Lib.hid hIA
      obtain ⟨bx, offx, fx, hxA, hBx, x0, x1, x2, x3, hfx⟩ := (HX.out.below hIA.bl) i (by rw [HXN.out]; exact hgo)
      subst hxA
      have hrx := HRX.out i hgo
      obtain ⟨s5, A5, n5, e5, s6, A6, n6, e6⟩ := fx
      simp only at x0 x1 x2 x3
      have hxF := fd_fa hfx hrx
      have e0 : ∀ W' : World, Below W2.heap.size W2 W' → W'.cell? ⟨bx, offx + i * 4, none⟩ = some (.int .i64 s5) ∧ W'.cell? ⟨bx, offx + i * 4 + 1, none⟩ = some (.slice A5 n5 e5) ∧ W'.cell? ⟨bx, offx + i * 4 + 2, none⟩ = some (.int .i64 s6) ∧ W'.cell? ⟨bx, offx + i * 4 + 3, none⟩ = some (.slice A6 n6 e6) ∧ W'.cell? ⟨GA, 0, none⟩ = some (.int .i64 s3) ∧ W'.cell? ⟨GA, 1, none⟩ = some (.slice A3 n3 e3) ∧ W'.cell? ⟨GA, 2, none⟩ = some (.int .i64 s4) ∧ W'.cell? ⟨GA, 3, none⟩ = some (.slice A4 n4 e4) ∧ Below W2.heap.size W2 W' := fun W' hW =>
        ⟨(hW.cell (p := ⟨bx, _, none⟩) hBx).trans x0, (hW.cell (p := ⟨bx, _, none⟩) hBx).trans x1, (hW.cell (p := ⟨bx, _, none⟩) hBx).trans x2, (hW.cell (p := ⟨bx, _, none⟩) hBx).trans x3, (kA.below hW kA.lt).cell 0, (kA.below hW kA.lt).cell 1, (kA.below hW kA.lt).cell 2, (kA.below hW kA.lt).cell 3, hW⟩
      have E0 := Lib.hid e0; clear e0
      have hB00 : Below W2.heap.size W2 W2.drew := (Below.refl _ _).drew
      have hqa := Lib.hid (q_getD (l := us) (i := i) (by rw [HUN.out]; exact hgo))
      have hqx := Lib.hid (q_getD (l := xs) (i := i) (by rw [HXN.out]; exact hgo))
      obtain ⟨qa, hqae⟩ : ∃ q, (us.getD i dnil).q = q := ⟨_, rfl⟩
      obtain ⟨qx, hqxe⟩ : ∃ q, (xs.getD i dnil).q = q := ⟨_, rfl⟩
      rw [hqae] at hqa haA
      rw [hqxe] at hqx hxF
      clear hqae hqxe hra hrx hfx hIA
      by_cases hom : okMul qa qx
      · have HSB := Lib.hid (fun (W' : World) (hb : Below W2.heap.size W2 W') => fmul_y (haA.below hb) (hxF.below hb) hom)
        clear haA hxF kA x0 x1 x2 x3
        go_cut [8, 9] from 19 to 27 (fun p e wx => ∃ (G8 : Nat) (r1 : Int) (C1 : Option Addr) (k1 l1 : Nat) (r2 : Int) (C2 : Option Addr) (k2 l2 : Nat), p = .pointer (some ⟨G8, 0, none⟩) ∧ e = .int .i64 0 ∧ Blk wx G8 40 #[.int .i64 r1, .slice C1 k1 l1, .int .i64 r2, .slice C2 k2 l2] ∧ FA (fun _ => False) wx ⟨r1, C1, k1, l1, r2, C2, k2, l2⟩ (qa * qx) ∧ Below W2.heap.size W2 wx)
        case first =>
          go_region_held3 (fun W' => W'.cell? ⟨bx, offx + i * 4, none⟩ = some (.int .i64 s5) ∧ W'.cell? ⟨bx, offx + i * 4 + 1, none⟩ = some (.slice A5 n5 e5) ∧ W'.cell? ⟨bx, offx + i * 4 + 2, none⟩ = some (.int .i64 s6) ∧ W'.cell? ⟨bx, offx + i * 4 + 3, none⟩ = some (.slice A6 n6 e6) ∧ W'.cell? ⟨GA, 0, none⟩ = some (.int .i64 s3) ∧ W'.cell? ⟨GA, 1, none⟩ = some (.slice A3 n3 e3) ∧ W'.cell? ⟨GA, 2, none⟩ = some (.int .i64 s4) ∧ W'.cell? ⟨GA, 3, none⟩ = some (.slice A4 n4 e4) ∧ Below W2.heap.size W2 W')
            (first | exact E0.out _ (below_st4 hB4 (Nat.le_refl _) _ _ _ _) | exact E0.out _ (below_new hB4 _) | exact E0.out _ (below_new hB00 _) | exact E0.out _ (by assumption) | exact E0.out _ ⟨rfl, rfl, rfl, Nat.le_refl _, fun _ _ => rfl⟩)
            (first
              | (go_at_call 36; (first | refine (HSB.out _ hB00).mono ?_ | refine (HSB.out _ (below_new hB00 _)).mono ?_); rintro e w4 ⟨⟨r1, C1, k1, l1, r2, C2, k2, l2⟩, rfl, hro, hrb, hb4⟩; have hB4 : Below W2.heap.size W2 w4 := (by first | exact ⟨hb4.os, hb4.tape, hb4.output, hb4.size, hb4.block⟩ | exact (below_new hB00 _).trans (hb4.mono (below_new hB00 _).size)); (try (have hk4 : Blk w4 W2.heap.size 40 #[.int .i64 0, .slice none 0 0, .int .i64 0, .slice none 0 0] := blk_run4 (b := W2.drew) hb4; have hlt4 := hk4.lt; have z0 := hk4.cell 0; have z1 := hk4.cell 1; have z2 := hk4.cell 2; have z3 := hk4.cell 3; have y0 := hk4.frozen 0; have y1 := hk4.frozen 1; have y2 := hk4.frozen 2; have y3 := hk4.frozen 3))))
          all_goals
            go_wp2_with fail
            go_meet
            first
              | exact ⟨_, r1, C1, k1, l1, r2, C2, k2, l2, rfl, rfl, hk4.set4 _ _ _ _, fa_st (f := ⟨r1, C1, k1, l1, r2, C2, k2, l2⟩) hk4 hro (by simp) (fun _ h => h.elim) (by first | exact hB00.size | exact (below_new hB00 _).size) hrb, below_st4 hB4 (Nat.le_refl _) _ _ _ _⟩
              | exact ⟨_, r1, C1, k1, l1, r2, C2, k2, l2, rfl, rfl, Blk.new _ _ _, fa_new (f := ⟨r1, C1, k1, l1, r2, C2, k2, l2⟩) hro (fun _ h => h.elim) (by first | exact hB00.size | exact (below_new hB00 _).size) hrb _, below_new hB4 _⟩
        obtain ⟨G8, r1, C1, k1, l1, r2, C2, k2, l2, rfl, rfl, k8, hq8, hb5⟩ := hcut
        clear E0 hB00 HSB
        have hI5 := hIA'.out.below hb5
        clear hIA'
        obtain ⟨s7, A7, n7, e7, s8, A8, n8, e8⟩ := f
        have a0 := hI5.k5.cell 0
        have a1 := hI5.k5.cell 1
        have a2 := hI5.k5.cell 2
        have a3 := hI5.k5.cell 3
        have q0 := k8.cell 0
        have q1 := k8.cell 1
        have q2 := k8.cell 2
        have q3 := k8.cell 3
        simp at a0 a1 a2 a3 q0 q1 q2 q3
        have HI5 := Lib.hid hI5
        have hfs := hI5.fa
        clear hI5 k8
        go_wp2_with fail
        clear a0 a1 a2 a3 q0 q1 q2 q3
        by_cases hos : okAdd s (qa * qx)
        · (with_reducible refine (fadd_y hfs hq8 hos).mono ?_)
          rintro e w6 ⟨⟨t1, B1, m1, e1, t2, B2, m2, e2⟩, rfl, ho6, rb6, hb6⟩
          have hk6 := HI5.out.k5.below hb6 HI5.out.k5.lt
          have z0 := hk6.cell 0
          have z1 := hk6.cell 1
          have z2 := hk6.cell 2
          have z3 := hk6.cell 3
          have y0 := hk6.frozen 0
          have y1 := hk6.frozen 1
          have y2 := hk6.frozen 2
          have y3 := hk6.frozen 3
          simp at z0 z1 z2 z3
          have hlt6 := hk6.lt
          have HN := Lib.hid (HI5.out.put hb6 ho6 rb6 (sumTo_yes HI5.out.run hqa.out hqx.out hom hos))
          clear hfs hq8 ho6 rb6 hb6 HI5 hk6
          go_wp2_with fail
          go_roundw
          case rel => exact ⟨i + 1, _, _, by omega, rfl, HN⟩
          case measure => simp [intOf]; omega
        · (with_reducible refine (fadd_n hfs hq8 hos).mono ?_)
          rintro e w6 ⟨rfl, hb6⟩
          have hk6 := HI5.out.k5.below hb6 HI5.out.k5.lt
          have z0 := hk6.cell 0
          have z1 := hk6.cell 1
          have z2 := hk6.cell 2
          have z3 := hk6.cell 3
          have y0 := hk6.frozen 0
          have y1 := hk6.frozen 1
          have y2 := hk6.frozen 2
          have y3 := hk6.frozen 3
          simp at z0 z1 z2 z3
          have hlt6 := hk6.lt
          have hbf : Hid (B = false) := Lib.hid (by rw [← HB.out, sumTo_no (sumTo_add HI5.out.run hqa.out hqx.out hom hos) hgo]; rfl)
          have hfin := Lib.hid (HI5.out.bl.trans (hb6.mono HI5.out.bl.size))
          have hge := Lib.hid (show w.heap.size ≤ G5 by have := HI5.out.h2; have := HI5.out.h5; omega)
          clear hfs hq8 hb6 HI5 hk6
          go_wp2_with fail
          go_ret
          exact ⟨by rw [hbf.out]; rfl, below_st4 hfin.out hge.out _ _ _ _⟩
      · have HSB := Lib.hid (fun (W' : World) (hb : Below W2.heap.size W2 W') => fmul_n (haA.below hb) (hxF.below hb) hom)
        have hbf : Hid (B = false) := Lib.hid (by rw [← HB.out, sumTo_no (sumTo_mul hIA'.out.run hqa.out hqx.out hom) hgo]; rfl)
        have hbl := Lib.hid hIA'.out.bl
        clear haA hxF kA x0 x1 x2 x3 hIA'
        go_cut [8, 9] from 19 to 27 (fun p e wx => e = .int .i64 6 ∧ Below W2.heap.size W2 wx)
        case first =>
          go_region_held3 (fun W' => W'.cell? ⟨bx, offx + i * 4, none⟩ = some (.int .i64 s5) ∧ W'.cell? ⟨bx, offx + i * 4 + 1, none⟩ = some (.slice A5 n5 e5) ∧ W'.cell? ⟨bx, offx + i * 4 + 2, none⟩ = some (.int .i64 s6) ∧ W'.cell? ⟨bx, offx + i * 4 + 3, none⟩ = some (.slice A6 n6 e6) ∧ W'.cell? ⟨GA, 0, none⟩ = some (.int .i64 s3) ∧ W'.cell? ⟨GA, 1, none⟩ = some (.slice A3 n3 e3) ∧ W'.cell? ⟨GA, 2, none⟩ = some (.int .i64 s4) ∧ W'.cell? ⟨GA, 3, none⟩ = some (.slice A4 n4 e4) ∧ Below W2.heap.size W2 W')
            (first | exact E0.out _ (below_st4 hB4 (Nat.le_refl _) _ _ _ _) | exact E0.out _ (below_new hB4 _) | exact E0.out _ (below_new hB00 _) | exact E0.out _ (by assumption) | exact E0.out _ ⟨rfl, rfl, rfl, Nat.le_refl _, fun _ _ => rfl⟩)
            (first
              | (go_at_call 36; (first | refine (HSB.out _ hB00).mono ?_ | refine (HSB.out _ (below_new hB00 _)).mono ?_); rintro e w4 ⟨⟨r1, C1, k1, l1, r2, C2, k2, l2⟩, rfl, hb4⟩; have hB4 : Below W2.heap.size W2 w4 := (by first | exact ⟨hb4.os, hb4.tape, hb4.output, hb4.size, hb4.block⟩ | exact (below_new hB00 _).trans (hb4.mono (below_new hB00 _).size)); (try (have hk4 : Blk w4 W2.heap.size 40 #[.int .i64 0, .slice none 0 0, .int .i64 0, .slice none 0 0] := blk_run4 (b := W2.drew) hb4; have hlt4 := hk4.lt; have z0 := hk4.cell 0; have z1 := hk4.cell 1; have z2 := hk4.cell 2; have z3 := hk4.cell 3; have y0 := hk4.frozen 0; have y1 := hk4.frozen 1; have y2 := hk4.frozen 2; have y3 := hk4.frozen 3))))
          all_goals
            go_wp2_with fail
            go_meet
            first
              | exact ⟨rfl, below_st4 hB4 (Nat.le_refl _) _ _ _ _⟩
              | exact ⟨rfl, below_new hB4 _⟩
        obtain ⟨rfl, hb5⟩ := hcut
        clear E0 hB00 HSB
        go_wp2_with fail
        go_ret
        exact ⟨by rw [hbf.out]; rfl, hbl.out.trans (hb5.mono hbl.out.size)⟩
    · have : i = n := by omega
      subst this
      obtain ⟨s7, A7, n7, e7, s8, A8, n8, e8⟩ := f
      have a0 := hI.out.k5.cell 0
      have a1 := hI.out.k5.cell 1
      have a2 := hI.out.k5.cell 2
      have a3 := hI.out.k5.cell 3
      have r1 := hI.out.k2.cell 1
      have r2 := hI.out.k2.cell 2
      have r3 := hI.out.k2.cell 3
      have r4 := hI.out.k2.cell 4
      simp at a0 a1 a2 a3 r1 r2 r3 r4
      have HI := Lib.hid hI.out
      have hfs := hI.out.fa
      have hfd := HF.out.below hI.out.bl
      clear hI
      go_wp2_with fail
      clear a0 a1 a2 a3 r1 r2 r3 r4
      (with_reducible refine (rcompare _ hfs.fv hfd.fv hfs.rb hfd.rb).mono ?_)
      rintro e w6 ⟨rfl, hb6⟩
      have hbt : Hid ((cmpR s d.q == 0) = B) := Lib.hid (by
        rw [← HB.out, HI.out.run]
        by_cases he : s = d.q
        · subst he
          rw [cmpR_zero.2 rfl]; simp
        · have hne : cmpR s d.q ≠ 0 := fun h => he (cmpR_zero.1 h)
          rw [beq_eq_false_iff_ne.2 hne]; simp [he])
      have hfin := Lib.hid (HI.out.bl.trans (hb6.mono HI.out.bl.size))
      clear hfs hfd HI
      go_wp2_with fail
      go_ret
      exact ⟨by rw [← hbt.out]; rfl, hfin.out⟩

end Go.Proofs.Ytlbjaimgoiimgaa

namespace Go.Proofs.Ytlbjaimgoiimgaa
open Go.RowKit

/-- A row that is read: its elements in a block outside T, all digits outside T. -/
structure RowIs (T : Nat → Prop) (w : World) (m : Nat) (r : Rw) (x : List Rat) : Prop where
  n : r.n = m
  len : x.length = m + 1
  a : ∃ (g : Nat) (cur : Array Value) (fs : List Fc), r.A = some ⟨g, 0, none⟩ ∧ ¬ T g ∧ Blk w g 40 cur ∧ CellsL cur fs ∧ fs.length = m ∧ ∀ j, j < m → FA T w (fs.getD j fnil) (x.getD j 0)
  v : FA T w r.f (x.getD m 0)
section
variable {T U : Nat → Prop} {w w' : World} {m : Nat} {r : Rw} {x : List Rat}
theorem RowIs.fr (h : RowIs T w m r x) (hf : Fr T w w') : RowIs T w' m r x := by
  obtain ⟨g, cur, fs, hA, hg, hB, hC, hl, hq⟩ := h.a
  exact ⟨h.n, h.len, ⟨g, cur, fs, hA, hg, hB.fr hf hg, hC, hl, fun j hj => (hq j hj).fr hf⟩, h.v.fr hf⟩
theorem RowIs.below (h : RowIs T w m r x) (hb : Below w.heap.size w w') : RowIs T w' m r x := h.fr (Fr.of_below hb)
theorem RowIs.less (h : RowIs T w m r x) (hT : ∀ b, U b → T b) : RowIs U w m r x := by
  obtain ⟨g, cur, fs, hA, hg, hB, hC, hl, hq⟩ := h.a
  exact ⟨h.n, h.len, ⟨g, cur, fs, hA, fun h => hg (hT _ h), hB, hC, hl, fun j hj => (hq j hj).less hT⟩, h.v.less hT⟩
theorem RowIs.up (h : RowIs T w m r x) : RowIs (fun b => T b ∨ w.heap.size ≤ b) w m r x := by
  obtain ⟨g, cur, fs, hA, hg, hB, hC, hl, hq⟩ := h.a
  exact ⟨h.n, h.len, ⟨g, cur, fs, hA, fun h => by
    rcases h with h | h
    · exact hg h
    · have := hB.lt
      omega, hB, hC, hl, fun j hj => (hq j hj).up⟩, h.v.up⟩
/-- The cells of an element. -/
theorem RowIs.cells (h : RowIs T w m r x) {j : Nat} (hj : j < m) : ∃ (g : Nat) (f : Fc), r.A = some ⟨g, 0, none⟩ ∧ g < w.heap.size ∧ ¬ T g ∧ w.cell? ⟨g, j * 4, none⟩ = some (.int .i64 f.s) ∧ w.cell? ⟨g, j * 4 + 1, none⟩ = some (.slice f.A f.n f.c) ∧ w.cell? ⟨g, j * 4 + 2, none⟩ = some (.int .i64 f.s') ∧ w.cell? ⟨g, j * 4 + 3, none⟩ = some (.slice f.A' f.n' f.c') ∧ FA T w f (x.getD j 0) := by
  obtain ⟨g, cur, fs, hA, hg, hB, hC, hl, hq⟩ := h.a
  obtain ⟨c0, c1, c2, c3⟩ := hC j (by omega)
  exact ⟨g, fs.getD j fnil, hA, hB.lt, hg, (hB.cell _).trans c0, (hB.cell _).trans c1, (hB.cell _).trans c2, (hB.cell _).trans c3, hq j hj⟩
/-- The elements as they lie. -/
theorem RowIs.fcs (h : RowIs T w m r x) : ∃ fs : List Fc, fs.length = m ∧ FcAt w r.A fs ∧ ∀ j, j < m → FA T w (fs.getD j fnil) (x.getD j 0) := by
  obtain ⟨g, cur, fs, hA, hg, hB, hC, hl, hq⟩ := h.a
  refine ⟨fs, hl, fun k hk => ?_, hq⟩
  obtain ⟨c0, c1, c2, c3⟩ := hC k hk
  exact ⟨g, 0, hA, hB.lt, by rw [Nat.zero_add, hB.cell]; exact c0, by rw [Nat.zero_add, hB.cell]; exact c1, by rw [Nat.zero_add, hB.cell]; exact c2, by rw [Nat.zero_add, hB.cell]; exact c3⟩
end
abbrev Rw.cs (r : Rw) : Array Value := #[.slice r.A r.n r.c, .int .i64 r.f.s, .slice r.f.A r.f.n r.f.c, .int .i64 r.f.s', .slice r.f.A' r.f.n' r.f.c']
abbrev Fc.cs (f : Fc) : Array Value := #[.int .i64 f.s, .slice f.A f.n f.c, .int .i64 f.s', .slice f.A' f.n' f.c']

/-- What the loop over the elements has: g is the block that is written. -/
structure RoI (T : Nat → Prop) (w wr : World) (m g N : Nat) (bxs : List (Nat × TypeId × Array Value)) (srcs : List (Rw × List Rat)) (frs : List (Fc × Rat)) (F : Nat → Rat → Option Rat) (x ys : List Rat) (fs : List Fc) (i : Nat) : Prop where
  bl : Below w.heap.size w wr
  bx : ∀ p, p ∈ bxs → Blk wr p.1 p.2.1 p.2.2 ∧ p.1 ≠ g ∧ w.heap.size ≤ p.1 ∧ p.1 < N
  line : ∃ cur, Blk wr g 40 cur ∧ CellsL cur fs
  fl : fs.length = m
  src : ∀ p, p ∈ srcs → RowIs (fun b => T b ∨ w.heap.size ≤ b ∧ b < N) wr m p.1 p.2
  fr : ∀ p, p ∈ frs → FA (fun b => T b ∨ w.heap.size ≤ b ∧ b < N) wr p.1 p.2
  q : ∀ j, j < i → FA (fun b => T b ∨ w.heap.size ≤ b ∧ b < N) wr (fs.getD j fnil) (ys.getD j 0)
  hp : Part F x ys i
  lo : w.heap.size ≤ g
  hi : g < N
  top : N ≤ wr.heap.size
section
variable {T : Nat → Prop} {w wr wq : World} {m g N : Nat} {bxs : List (Nat × TypeId × Array Value)} {srcs : List (Rw × List Rat)} {frs : List (Fc × Rat)} {F : Nat → Rat → Option Rat} {x ys : List Rat} {fs : List Fc} {i : Nat}
theorem RoI.below (h : RoI T w wr m g N bxs srcs frs F x ys fs i) (hb : Below wr.heap.size wr wq) : RoI T w wq m g N bxs srcs frs F x ys fs i := by
  obtain ⟨cur, hB, hC⟩ := h.line
  exact ⟨h.bl.trans (hb.mono h.bl.size), fun p hp => ⟨(h.bx p hp).1.below hb (h.bx p hp).1.lt, (h.bx p hp).2⟩, ⟨cur, hB.below hb hB.lt, hC⟩, h.fl, fun p hp => (h.src p hp).below hb, fun p hp => (h.fr p hp).below hb, fun j hj => (h.q j hj).below hb, h.hp, h.lo, h.hi, Nat.le_trans h.top hb.size⟩
/-- An element is stored. -/
theorem RoI.put (h : RoI T w wr m g N bxs srcs frs F x ys fs i) (hi : i < m) (hx : i < x.length) {q : Fc} {z : Rat} (hq : FA (fun b => T b ∨ w.heap.size ≤ b ∧ b < N) wr q z) (hz : F i (x.getD i 0) = some z) :
    ∃ V, V = (((wr.setCell ⟨g, i * 4, none⟩ (.int .i64 q.s)).setCell ⟨g, i * 4 + 1, none⟩ (.slice q.A q.n q.c)).setCell ⟨g, i * 4 + 2, none⟩ (.int .i64 q.s')).setCell ⟨g, i * 4 + 3, none⟩ (.slice q.A' q.n' q.c') ∧
      RoI T w V m g N bxs srcs frs F x (ys ++ [z]) (fs.set i q) (i + 1) := by
  obtain ⟨cur, hB, hC⟩ := h.line
  obtain ⟨V, cur', hV, hB', hC', hfr⟩ := CellsL.store hB hC (k := i) (by rw [h.fl]; exact hi) q
  have hU : Fr (fun b => T b ∨ w.heap.size ≤ b ∧ b < N) wr V := hfr.more (fun b hb => .inr (by subst hb; exact ⟨h.lo, h.hi⟩))
  refine ⟨V, hV, h.bl.trans (hfr.below (fun b hb => by subst hb; exact h.lo) h.bl.size), fun p hp => ⟨(h.bx p hp).1.fr hfr (h.bx p hp).2.1, (h.bx p hp).2⟩, ⟨cur', hB', hC'⟩, by rw [List.length_set]; exact h.fl, fun p hp => (h.src p hp).fr hU, fun p hp => (h.fr p hp).fr hU, fun j hj => ?_, h.hp.step hx hz, h.lo, h.hi, Nat.le_trans h.top hfr.size⟩
  by_cases hji : j = i
  · subst hji
    rw [getD_set_self (by rw [h.fl]; exact hi)]
    have e : (ys ++ [z]).getD j 0 = z := by rw [List.getD_eq_getElem?_getD, List.getElem?_append_right (by rw [h.hp.len]; exact Nat.le_refl _), h.hp.len, Nat.sub_self]; rfl
    rw [e]
    exact hq.fr hU
  · rw [getD_set_ne (Ne.symm hji), List.getD_eq_getElem?_getD (l := ys ++ [z]), List.getElem?_append_left (by rw [h.hp.len]; omega), ← List.getD_eq_getElem?_getD]
    exact (h.q j (by omega)).fr hU
/-- A new result lies outside. -/
theorem RoI.own (h : RoI T w wr m g N bxs srcs frs F x ys fs i) (hT : ∀ b, T b → b < w.heap.size) {w1 : World} {B : Nat} {f : Fc} {z : Rat} (ho : FO w1 B f.v z.num z.den) (hB : wr.heap.size ≤ B) (hr : Rb z 60 60) : FA (fun b => T b ∨ w.heap.size ≤ b ∧ b < N) w1 f z :=
  FA.own ho (fun b hb => by
    have := h.top
    rcases hb with hb | hb
    · have := hT b hb
      have := h.bl.size
      omega
    · omega) hr
theorem RoI.small (h : RoI T w wr m g N bxs srcs frs F x ys fs i) (hT : ∀ b, T b → b < w.heap.size) : ∀ b, (T b ∨ w.heap.size ≤ b ∧ b < N) → b < wr.heap.size := fun b hb => by
  have := h.top
  rcases hb with hb | hb
  · have := hT b hb
    have := h.bl.size
    omega
  · omega
/-- The row is done: its value is stored, and the row is copied. -/
theorem RoI.done (h : RoI T w wr m g N bxs srcs frs F x ys fs m) (hx : x.length = m + 1) {w1 V : World} {q : Fc} {z : Rat} {cap : Nat} (hb : Below wr.heap.size wr w1) (hq : FA (fun b => T b ∨ w.heap.size ≤ b ∧ b < N) w1 q z) (hz : F m (x.getD m 0) = some z)
    (hT : ∀ b, T b → b < w.heap.size) (hV : Fr (fun b => w.heap.size ≤ b ∧ b < N ∧ b ≠ g) w1 V) : Below w.heap.size w V ∧ mapO F 0 x = some (ys ++ [z]) ∧ RowIs T V m ⟨some ⟨g, 0, none⟩, m, cap, q⟩ (ys ++ [z]) := by
  have h1 := h.below hb
  have hU : Fr (fun b => T b ∨ w.heap.size ≤ b ∧ b < N) w1 V := hV.more (fun b hb => .inr ⟨hb.1, hb.2.1⟩)
  have hp := h1.hp.step (by omega) hz
  rw [← hx] at hp
  refine ⟨h1.bl.trans (hV.below (fun b hb => hb.1) h1.bl.size), hp.done, rfl, by rw [List.length_append, h1.hp.len]; rfl, ?_, ?_⟩
  · obtain ⟨cur, hB, hC⟩ := h1.line
    refine ⟨g, cur, fs, rfl, fun ht => by have := hT g ht; have := h.lo; omega, hB.fr hV (fun hn => hn.2.2 rfl), hC, h.fl, fun j hj => ?_⟩
    rw [List.getD_eq_getElem?_getD (l := ys ++ [z]), List.getElem?_append_left (by rw [h1.hp.len]; omega), ← List.getD_eq_getElem?_getD]
    exact ((h1.q j hj).fr hU).less (fun b hb => .inl hb)
  · have e : (ys ++ [z]).getD m 0 = z := by rw [List.getD_eq_getElem?_getD, List.getElem?_append_right (by rw [h1.hp.len]; exact Nat.le_refl _), h1.hp.len, Nat.sub_self]; rfl
    rw [e]
    exact (hq.fr hU).less (fun b hb => .inl hb)
end

end Go.Proofs.Ytlbjaimgoiimgaa

namespace Go.Proofs.Ytlbjaimgoiimgaa
open Go.RowKit

theorem dboxes (w : World) (a b : Array Value) (c : Array Value) (t u : TypeId) : ∃ W, ((w.alloc (.cells a t)).alloc (.cells b t)).alloc (.cells c u) = W ∧ Below w.heap.size w W ∧
    Blk W w.heap.size t a ∧ Blk W (w.heap.size + 1) t b ∧ Blk W (w.heap.size + 1 + 1) u c := by
  have h1 : Below w.heap.size w (w.alloc (.cells a t)) := (Below.refl _ _).alloc (Nat.le_refl _) _
  have h2 := h1.alloc h1.size (.cells b t)
  have h3 := h2.alloc h2.size (.cells c u)
  have k1 := Blk.new w t a
  have k2 := Blk.new (w.alloc (.cells a t)) t b
  have k3 := Blk.new ((w.alloc (.cells a t)).alloc (.cells b t)) u c
  simp only [World.size_alloc] at k2 k3
  exact ⟨_, rfl, h3, (k1.alloc _).alloc _, k2.alloc _, k3⟩

theorem fr_set (g k : Nat) (w : World) (u : Value) : Fr (· = g) w (w.setCell ⟨g, k, none⟩ u) := ⟨rfl, rfl, rfl, by simp, fun b _ hb => Below.heap_setCell _ _ _ b hb⟩
theorem fr_st4 (g : Nat) (w : World) (u0 u1 u2 u3 : Value) : Fr (· = g) w ((((w.setCell ⟨g, 1, none⟩ u0).setCell ⟨g, 2, none⟩ u1).setCell ⟨g, 3, none⟩ u2).setCell ⟨g, 4, none⟩ u3) :=
  (((fr_set g 1 w u0).tr (fr_set g 2 _ u1)).tr (fr_set g 3 _ u2)).tr (fr_set g 4 _ u3)
theorem fr_st5 (g : Nat) (w : World) (u0 u1 u2 u3 u4 : Value) : Fr (· = g) w (((((w.setCell ⟨g, 0, none⟩ u0).setCell ⟨g, 1, none⟩ u1).setCell ⟨g, 2, none⟩ u2).setCell ⟨g, 3, none⟩ u3).setCell ⟨g, 4, none⟩ u4) :=
  ((((fr_set g 0 w u0).tr (fr_set g 1 _ u1)).tr (fr_set g 2 _ u2)).tr (fr_set g 3 _ u3)).tr (fr_set g 4 _ u4)

theorem below_st5 {w W : World} {g : Nat} (h : Below w.heap.size w W) (hg : w.heap.size ≤ g) (u0 u1 u2 u3 u4 : Value) : Below w.heap.size w (((((W.setCell ⟨g, 0, none⟩ u0).setCell ⟨g, 1, none⟩ u1).setCell ⟨g, 2, none⟩ u2).setCell ⟨g, 3, none⟩ u3).setCell ⟨g, 4, none⟩ u4) :=
  h.trans ((fr_st5 g W u0 u1 u2 u3 u4).below (fun b hb => by subst hb; exact hg) h.size)

end Go.Proofs.Ytlbjaimgoiimgaa
