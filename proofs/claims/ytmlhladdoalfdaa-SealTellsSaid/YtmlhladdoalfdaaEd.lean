/- append of entries; slices.Clone, maps.Clone; All and Copy. -/
import Derived.Test.YtmlhladdoalfdaaEc
import Derived.Lib.SliceRun
namespace Go.Proofs.Ytmlhladdoalfdaa
open Go.RowKit

theorem Try.infoEn : (Try.prog.info? 33).map (fun i => (i.zero, i.size, i.bytes)) = some (some (.agg #[.int .i64 0, .string ⟨#[]⟩]), 2, 24) := by kernel_rfl

theorem sl_src {B : Nat} {w : World} {ad : Addr} {es : List (En)} (h : SlAt B w (some ad) es) : ∀ j u, (pc es)[j]? = some u → w.cell? (ad.add j) = some u := fun j u hj => by
  have hlt := (List.getElem?_eq_some_iff.1 hj).1
  rw [pc_length] at hlt
  obtain ⟨b, off, e, _, hc, hd⟩ := h (j / 2) (by omega)
  injection e with e
  subst e
  obtain ⟨f1, f2⟩ := pc_get es (j / 2) (by omega)
  have e2 : es.getD (j / 2) e0 = es[j / 2] := by rw [List.getD_eq_getElem?_getD, List.getElem?_eq_getElem (by omega)]; rfl
  rw [e2] at hc hd
  rw [Go.WideShapes.add_plain]
  rcases (show j = 2 * (j / 2) ∨ j = 2 * (j / 2) + 1 by omega) with h1 | h1
  · rw [← h1, hj] at f1
    injection f1 with f1
    rw [f1, ← hc]
    congr 2
    omega
  · rw [← h1, hj] at f2
    injection f2 with f2
    rw [f2, ← hd]
    congr 2
    omega

theorem run_appE (w : World) (ty : TypeId) (B : Nat) (v : Value) (ds es : List (En)) (A : Option Addr) (m c : Nat) (hown : OwnE w B v ds) (hm : es.length = m) (hsrc : SlAt w.heap.size w A es) (hb : ds.length + m ≤ 1000000) (hbase : B ≤ w.heap.size) :
    ∃ v' w', (Builtin.append_ #[22, 22] ty #[v, .slice A m c]).run Try.prog w = .ok v' w' ∧ OwnE w' B v' (ds ++ es) ∧ w.grownBy w' v.ownBlock ∧ (v'.ownBlock = v.ownBlock ∨ v'.ownBlock = some w.heap.size) := by
  obtain ⟨i0, hi, hz0, hz1, hz2⟩ := info_parts Try.infoEn
  subst hm
  have hpl := pc_length es
  cases A with
  | some ad =>
    obtain ⟨v', w', a1, a2, a3, _, a4⟩ := run_append_own_at (P := Try.prog) w B 22 ty 33 i0 (.agg #[.int .i64 0, .string ⟨#[]⟩]) 2 24 Try.underlying22 hi hz0 hz1 hz2 rfl (by decide) v ds.length (pc ds) hown ad es.length c (pc es) hpl (sl_src hsrc) (pc_oneCell es) (by unfold maxLen; omega) (by omega) hbase
    refine ⟨v', w', a1, ?_, a3, a4⟩
    unfold OwnE
    rw [List.length_append, pc_append]
    exact a2
  | none =>
    have he : es = [] := by
      cases es with
      | nil => rfl
      | cons d es => obtain ⟨b, off, e, _⟩ := hsrc 0 (by simp); cases e
    subst he
    refine ⟨v, w, ?_, by rw [List.append_nil]; exact hown, ⟨rfl, rfl, rfl, Nat.le_refl _, fun _ _ _ => rfl⟩, .inl rfl⟩
    rcases hown.2 with ⟨rfl, hn⟩ | ⟨g, cap, cur, rfl, _, _, hnc, _⟩
    · simp [Builtin.append_, run_underlying Try.underlying22, sizeOf, typeInfo, hi, Builtin.lenOf, Builtin.firstCells]
    · simp [Builtin.append_, run_underlying Try.underlying22, sizeOf, typeInfo, hi, Builtin.lenOf, Builtin.firstCells, loadCells, hnc, storeCells]

/-- append at a step of a region that draws its order. -/
theorem step_appE {w : World} {ops : Array Oper} {o : Oper} {a : Act} {K : Act → World → Prop} {Q : Exit → Act → World → Prop} {E : Prop} (hgd : o.guard = none) (s x : Operand)
    (ho : o.op = .call { callee := .builtin .append, args := #[s, x], argTypes := #[22, 22] })
    (B : Nat) (v : Value) (ds es : List (En)) (A : Option Addr) (m c : Nat) (hs : a.eval s = v) (hown : OwnE w B v ds)
    (hx : a.eval x = .slice A m c) (hm : es.length = m) (hsrc : SlAt w.heap.size w A es) (hb : ds.length + m ≤ 1000000) (hbase : B ≤ w.heap.size)
    (h : ∀ v' w', OwnE w' B v' (ds ++ es) → w.grownBy w' v.ownBlock → (v'.ownBlock = v.ownBlock ∨ v'.ownBlock = some w.heap.size) → K (a.put o.dst v') w') :
    if Region.wanted o (yielded ops a.tmps) = true then Oper.wp Try.prog o a w K Q else E := by
  have hw : Region.wanted o (yielded ops a.tmps) = true := by simp [Region.wanted, hgd]
  rw [if_pos hw]
  obtain ⟨v', w', hr, h2, h3, h4⟩ := run_appE w o.type B v ds es A m c hown hm hsrc hb hbase
  unfold Oper.wp execOp
  simp only [ho, resolve, invoke, builtin, Sem.run_bind, Sem.run_pure, Result.andThen_ok, List.map_toArray, List.map_cons, List.map_nil, hs, hx, hr]
  exact h v' w' h2 h3 h4
/-- append, with where the new slice lies. -/
theorem appE_at {w : World} {ops : Array Oper} {rest : List Oper} {o : Oper} {a : Act} {Q : Exit → Act → World → Prop} (hgd : o.guard = none) (s x : Operand)
    (ho : o.op = .call { callee := .builtin .append, args := #[s, x], argTypes := #[22, 22] })
    (B : Nat) (v : Value) (ds es : List (En)) (A : Option Addr) (m c : Nat) (hs : a.eval s = v) (hown : OwnE w B v ds)
    (hx : a.eval x = .slice A m c) (hm : es.length = m) (hsrc : SlAt w.heap.size w A es) (hb : ds.length + m ≤ 1000000) (hbase : B ≤ w.heap.size)
    (h : ∀ v' w', OwnE w' B v' (ds ++ es) → w.grownBy w' v.ownBlock → (v'.ownBlock = v.ownBlock ∨ v'.ownBlock = some w.heap.size) → wpList Try.prog ops Q rest (a.put o.dst v') w') : wpList Try.prog ops Q (o :: rest) a w := by
  obtain ⟨v', w', hr, h2, h3, h4⟩ := run_appE w o.type B v ds es A m c hown hm hsrc hb hbase
  refine wpList_plain hgd fun K' hK' => ?_
  unfold Oper.wp execOp
  simp only [ho, resolve, invoke, builtin, Sem.run_bind, Sem.run_pure, Result.andThen_ok, List.map_toArray, List.map_cons, List.map_nil, hs, hx, hr]
  exact hK' _ _ (h v' w' h2 h3 h4)

theorem grown_bel {B : Nat} {w0 w w' : World} {v : Value} {ds : List (En)} (h : Below B w0 w) (hown : OwnE w B v ds) (hg : w.grownBy w' v.ownBlock) (hB : B ≤ w0.heap.size) : Below B w0 w' :=
  ⟨hg.os.trans h.os, hg.tape.trans h.tape, hg.output.trans h.output, Nat.le_trans h.size hg.size, fun k hk => (hg.block k (by have := h.size; omega) (fun e => by have := (World.ownsRow.lt hown k e.symm).1; omega)).trans (h.block k hk)⟩

theorem emptyE (w : World) {B : Nat} (hB : B ≤ w.heap.size) : OwnE (w.alloc (.cells #[] 33)) B (.slice (some ⟨w.heap.size, 0, none⟩) 0 0) [] :=
  ⟨rfl, .inr ⟨w.heap.size, 0, #[], rfl, hB, heap_alloc_new w _, Nat.le_refl _, Nat.zero_le _, rfl, rfl⟩⟩


set_option maxRecDepth 100000 in
set_option maxHeartbeats 4000000 in
theorem sclone_any (ds : List En) (A : Option Addr) (n c : Nat) (w : World) (hn : ds.length = n) (hS : SlAt w.heap.size w A ds) (hl : n ≤ 1000) :
    Calls Try.prog 24 #[.slice A n c] w fun e w' => ∃ v, e = .returned v ∧ OwnE w' w.heap.size v ds ∧ Below w.heap.size w w' := by
  cases A with
  | none =>
    have hd : ds = [] := by
      cases ds with
      | nil => rfl
      | cons d es => obtain ⟨b, off, e, _⟩ := hS 0 (by simp); cases e
    subst hd
    clear hS
    simp at hn
    subst hn
    have hnn := Lib.run_eql_slice_nil (P := Try.prog) w 22 33 none 0 c 0 0 Try.underlying22
    go_enter Try.func24, Try.ntmps24
    go_wp2_with fail
    go_ret
    exact ⟨_, rfl, OwnE.nil _ _, Below.refl _ _⟩
  | some ad =>
    have HS := Lib.hid hS; clear hS
    have hnn := Lib.run_eql_slice_nil (P := Try.prog) w 22 33 (some ad) n c 0 0 Try.underlying22
    go_enter Try.func24, Try.ntmps24
    go_wp2_with (at_builtin; refine appE_at rfl (.tmp 5) (.tmp 6) rfl w.heap.size _ [] ds (some ad) n c rfl (emptyE w (Nat.le_refl _)) rfl hn ((HS.out.below ((Below.refl _ _).alloc (Nat.le_refl _) _)).more (by simp)) (by simp; omega) (by simp) ?_; intro v2 w2 hown2 hg2 hat2; have hb2 := grown_bel ((Below.refl w.heap.size w).alloc (Nat.le_refl _) _) (emptyE w (Nat.le_refl _)) hg2 (Nat.le_refl _))
    go_ret
    exact ⟨_, rfl, by simpa using hown2, hb2⟩

set_option maxRecDepth 100000 in
set_option maxHeartbeats 4000000 in
theorem all_any {S : Nat → Prop} {r : Nat} {es : List En} {w : World} (h : Ring w S r es) (hl : es.length ≤ 1000) :
    Calls Try.prog 18 #[.pointer (some ⟨r, 0, none⟩)] w fun e w' => ∃ v, e = .returned v ∧ OwnE w' w.heap.size v es ∧ Below w.heap.size w w' := by
  obtain ⟨m, v, h1, h2, h3, -⟩ := h
  obtain ⟨A, c, rfl, hc, hm, hS⟩ := h3.at_
  have k0 := h1.cell 0
  simp at k0
  have HC := Lib.hid (sclone_any es A _ c w rfl hS hl)
  obtain ⟨n, hn⟩ : ∃ n, es.length = n := ⟨_, rfl⟩
  rw [hn] at k0 HC
  clear h1 h2 h3 hS hn hc
  go_enter Try.func18, Try.ntmps18
  go_wp2_with fail
  refine HC.out.mono ?_
  rintro e w1 ⟨v1, rfl, ho, hb⟩
  go_wp2_with fail
  go_ret
  exact ⟨_, rfl, ho, hb⟩

set_option maxRecDepth 100000 in
set_option maxHeartbeats 4000000 in
theorem mclone_any (b : Nat) (f : En → Option Value) (w : World) (h : EMap w b f) :
    Calls Try.prog 25 #[.map (some b)] w fun e w' => ∃ m, e = .returned (.map (some m)) ∧ EMap w' m f ∧ w.heap.size ≤ m ∧ m < w'.heap.size ∧ Below w.heap.size w w' := by
  obtain ⟨es, clock, hb, hent⟩ := h
  have hq := fun w => run_eql_map_nil_sl (P := Try.prog) w 46 _ _ (some b) Try.underlying46
  have HE := Lib.hid hent; clear hent
  go_enter Try.func25, Try.ntmps25
  go_wp2
  rw [run_callFunc_extern Try.func27 (by kernel_rfl) (by kernel_rfl) (by kernel_rfl) (e := Extern.MapsClone.clone) (by kernel_rfl), run_maps_clone_sl w 46 hb]
  simp only [Result.andThen]
  rw [Oper.upon_value]
  go_wp2
  rw [run_typeAssert_map_sl _ 46 20 _ _ _ Try.underlying46]
  simp only [Result.andThen]
  rw [Oper.upon_value]
  go_wp2
  go_ret
  exact ⟨_, rfl, ⟨es, clock, heap_alloc_new w _, HE.out⟩, Nat.le_refl _, by simp, (Below.refl _ w).alloc (Nat.le_refl _) _⟩

end Go.Proofs.Ytmlhladdoalfdaa
