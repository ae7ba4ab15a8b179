/- Opening of the laws' arguments: arcs; labels. -/
import Derived.Test.YteiojobgjdfdpaaCo
import Derived.Test.YteiojobgjdfdpaaQk
import Derived.Test.YteiojobgjdfdpaaQv
namespace Go.Proofs.Yteiojobgjdfdpaa
open Go.ChangeShapes Go.WideShapes Go.ChangeAt Go.RowKit Go.Joins Go.Deep

theorem pick_arcs {P : Nat → Am → Prop} : ∀ n : Nat, (∀ i, i < n → ∃ d, P i d) → ∃ ds : List Am, ds.length = n ∧ ∀ k (h : k < ds.length), P k ds[k] := fun n => by
  induction n with
  | zero => intro _; exact ⟨[], rfl, fun k h => by cases h⟩
  | succ n ih =>
    intro h
    obtain ⟨ds, hl, hd⟩ := ih (fun i hi => h i (by omega))
    obtain ⟨d, hd'⟩ := h n (by omega)
    refine ⟨ds ++ [d], by simp [hl], fun k hk => ?_⟩
    by_cases hkn : k < ds.length
    · rw [List.getElem_append_left hkn]; exact hd k hkn
    · have : k = n := by simp at hk; omega
      subst this
      rw [List.getElem_append_right (by omega)]
      simpa [hl] using hd'
theorem pick_lbs {P : Nat → Lb → Prop} : ∀ n : Nat, (∀ i, i < n → ∃ d, P i d) → ∃ ds : List Lb, ds.length = n ∧ ∀ k (h : k < ds.length), P k ds[k] := fun n => by
  induction n with
  | zero => intro _; exact ⟨[], rfl, fun k h => by cases h⟩
  | succ n ih =>
    intro h
    obtain ⟨ds, hl, hd⟩ := ih (fun i hi => h i (by omega))
    obtain ⟨d, hd'⟩ := h n (by omega)
    refine ⟨ds ++ [d], by simp [hl], fun k hk => ?_⟩
    by_cases hkn : k < ds.length
    · rw [List.getElem_append_left hkn]; exact hd k hkn
    · have : k = n := by simp at hk; omega
      subst this
      rw [List.getElem_append_right (by omega)]
      simpa [hl] using hd'
theorem Try.cellsLb : Try.prog.cellsOf 37 = 2 := by kernel_rfl
section
variable {H : Type} {enc : TypeId × Value → H} {w : World}
set_option maxRecDepth 100000 in
theorem open_R {r : Reach} {b0 : Nat} {v : Value} {d : DataW H} {p : List MemPlace} (hv : Value.okWide Try.prog w r b0 22 v) (h : DataW.Trod enc Try.prog w 0 (fun _ => true) true 22 v d p) :
    ∃ (l : List Am) (A : Option Addr) (c : Nat), v = .slice A l.length c ∧ l.length ≤ 9223372036854775807 ∧ ArcsAt w.heap.size w A l := by
  obtain ⟨a0, len0, cap0, rfl⟩ := okWide_slice Try.underlying22 hv
  obtain ⟨fuel, hf⟩ := h
  have h : DataW.trod enc Try.prog w 0 (fun _ => true) true fuel 22 [.slice a0 len0 cap0] = some (d, p) := by simpa [Value.cells] using hf
  rcases open_slice Try.underlying22 h with ⟨hcs, _⟩ | ⟨a, len, cap, m, n', D, Pl, hcs, _, hl, hm, hmm, _, hi⟩
  · simp only [List.cons.injEq, and_true] at hcs
    injection hcs with q1 q2 q3
    subst q1; subst q2; subst q3
    exact ⟨[], none, 0, rfl, by simp, fun k hk => by cases hk⟩
  · simp only [List.cons.injEq, and_true] at hcs
    injection hcs with q1 q2 q3
    subst q1; subst q2; subst q3
    simp only [if_true] at hmm
    rw [Try.cellsArc] at hi
    have key : ∀ i, i < len0 → ∃ x : Am, ∃ (b off : Nat), some a = some ⟨b, off, none⟩ ∧ b < w.heap.size ∧ w.cell? ⟨b, off + i * 4, none⟩ = some (.int .i64 x.a.f) ∧ w.cell? ⟨b, off + i * 4 + 1, none⟩ = some (.int .i64 x.a.t) ∧
        w.cell? ⟨b, off + i * 4 + 2, none⟩ = some (.slice x.A x.a.lo.length x.c) ∧ w.cell? ⟨b, off + i * 4 + 3, none⟩ = some (.slice x.A' x.a.hi.length x.c') ∧ IntsAt w.heap.size w x.A x.a.lo ∧ IntsAt w.heap.size w x.A' x.a.hi := fun i hil => by
      obtain ⟨cs', hc, ht⟩ := hi i (by omega)
      obtain ⟨_, hcl, hat⟩ := World.cells?_some hc
      match cs', hcl with
      | [e0, e1, e2, e3], _ =>
        obtain ⟨y0, y1, y2, y3, n, _, _, g0, g1, g2, g3⟩ := trod_struct4 Try.underlying39 ht
        have g0' : DataW.trod enc Try.prog w 0 (fun _ => true) true n 3 [e0] = some y0 := by simpa [Value.cells, Try.cellsI] using g0
        have g1' : DataW.trod enc Try.prog w 0 (fun _ => true) true n 3 [e1] = some y1 := by simpa [Value.cells, Try.cellsI] using g1
        have g2' : DataW.trod enc Try.prog w 0 (fun _ => true) true n 32 [e2] = some y2 := by simpa [Value.cells, Try.cellsL] using g2
        have g3' : DataW.trod enc Try.prog w 0 (fun _ => true) true n 32 [e3] = some y3 := by simpa [Value.cells, Try.cellsL] using g3
        obtain ⟨F, q0, _, _⟩ := DataW.trod_int Try.underlying3 g0'
        obtain ⟨T, q1, _, _⟩ := DataW.trod_int Try.underlying3 g1'
        simp only [List.cons.injEq, and_true] at q0 q1
        subst q0; subst q1
        obtain ⟨l1, A1, c1, rfl, i1⟩ := open_list g2'
        obtain ⟨l2, A2, c2, rfl, i2⟩ := open_list g3'
        have h0 := hat 0 (by omega)
        have h1 := hat 1 (by omega)
        have h2 := hat 2 (by omega)
        have h3 := hat 3 (by omega)
        obtain ⟨b, off, spot⟩ := a
        have hs : spot = none := by
          obtain ⟨cs0, hc0, _⟩ := hi 0 (by omega)
          obtain ⟨_, hcl0, hat0⟩ := World.cells?_some hc0
          have hz := hat0 0 (by omega)
          rw [List.getElem?_eq_getElem (by omega)] at hz
          simpa [Addr.add] using World.cell?_spot hz
        subst hs
        have kk : ∀ j : Nat, ((⟨b, off, none⟩ : Addr).add (i * 4)).add j = ⟨b, off + i * 4 + j, none⟩ := fun j => by rw [Go.WideShapes.add_plain, Go.WideShapes.add_plain]
        rw [kk] at h0 h1 h2 h3
        exact ⟨⟨⟨F, T, l1, l2⟩, A1, c1, A2, c2⟩, b, off, rfl, World.block_lt_of_cell? w _ h0, h0, h1, h2, h3, i1, i2⟩
    obtain ⟨ds, hdl, hds⟩ := pick_arcs len0 key
    refine ⟨ds, some a, cap0, by rw [hdl], by rw [hdl]; unfold maxLen at hm; omega, fun k hk => ?_⟩
    obtain ⟨b, off, hh⟩ := hds k hk
    have e2 : am ds k = ds[k] := by show ds.getD k anil = _; rw [List.getD_eq_getElem?_getD, List.getElem?_eq_getElem hk]; rfl
    rw [e2]
    exact ⟨b, off, hh⟩
set_option maxRecDepth 100000 in
theorem open_L {r : Reach} {b0 : Nat} {v : Value} {d : DataW H} {p : List MemPlace} (hv : Value.okWide Try.prog w r b0 23 v) (h : DataW.Trod enc Try.prog w 0 (fun _ => true) true 23 v d p) :
    ∃ (l : List Lb) (A : Option Addr) (c : Nat), v = .slice A l.length c ∧ l.length ≤ 9223372036854775807 ∧ LbsAt w.heap.size w A l := by
  obtain ⟨a0, len0, cap0, rfl⟩ := okWide_slice Try.underlying23 hv
  obtain ⟨fuel, hf⟩ := h
  have h : DataW.trod enc Try.prog w 0 (fun _ => true) true fuel 23 [.slice a0 len0 cap0] = some (d, p) := by simpa [Value.cells] using hf
  rcases open_slice Try.underlying23 h with ⟨hcs, _⟩ | ⟨a, len, cap, m, n', D, Pl, hcs, _, hl, hm, hmm, _, hi⟩
  · simp only [List.cons.injEq, and_true] at hcs
    injection hcs with q1 q2 q3
    subst q1; subst q2; subst q3
    exact ⟨[], none, 0, rfl, by simp, fun k hk => by cases hk⟩
  · simp only [List.cons.injEq, and_true] at hcs
    injection hcs with q1 q2 q3
    subst q1; subst q2; subst q3
    simp only [if_true] at hmm
    rw [Try.cellsLb] at hi
    have key : ∀ i, i < len0 → ∃ x : Lb, ∃ (b off : Nat), some a = some ⟨b, off, none⟩ ∧ b < w.heap.size ∧ w.cell? ⟨b, off + i * 2, none⟩ = some (.int .i64 x.1) ∧ w.cell? ⟨b, off + i * 2 + 1, none⟩ = some (.int .i64 x.2) := fun i hil => by
      obtain ⟨cs', hc, ht⟩ := hi i (by omega)
      obtain ⟨_, hcl, hat⟩ := World.cells?_some hc
      match cs', hcl with
      | [e0, e1], _ =>
        obtain ⟨y0, y1, n, _, _, g0, g1⟩ := trod_struct2 Try.underlying37 ht
        have g0' : DataW.trod enc Try.prog w 0 (fun _ => true) true n 3 [e0] = some y0 := by simpa [Value.cells, Try.cellsI] using g0
        have g1' : DataW.trod enc Try.prog w 0 (fun _ => true) true n 3 [e1] = some y1 := by simpa [Value.cells, Try.cellsI] using g1
        obtain ⟨F, q0, _, _⟩ := DataW.trod_int Try.underlying3 g0'
        obtain ⟨T, q1, _, _⟩ := DataW.trod_int Try.underlying3 g1'
        simp only [List.cons.injEq, and_true] at q0 q1
        subst q0; subst q1
        have h0 := hat 0 (by omega)
        have h1 := hat 1 (by omega)
        obtain ⟨b, off, spot⟩ := a
        have hs : spot = none := by
          obtain ⟨cs0, hc0, _⟩ := hi 0 (by omega)
          obtain ⟨_, hcl0, hat0⟩ := World.cells?_some hc0
          have hz := hat0 0 (by omega)
          rw [List.getElem?_eq_getElem (by omega)] at hz
          simpa [Addr.add] using World.cell?_spot hz
        subst hs
        have kk : ∀ j : Nat, ((⟨b, off, none⟩ : Addr).add (i * 2)).add j = ⟨b, off + i * 2 + j, none⟩ := fun j => by rw [Go.WideShapes.add_plain, Go.WideShapes.add_plain]
        rw [kk] at h0 h1
        exact ⟨(F, T), b, off, rfl, World.block_lt_of_cell? w _ h0, h0, h1⟩
    obtain ⟨ds, hdl, hds⟩ := pick_lbs len0 key
    refine ⟨ds, some a, cap0, by rw [hdl], by rw [hdl]; unfold maxLen at hm; omega, fun k hk => ?_⟩
    obtain ⟨b, off, hh⟩ := hds k hk
    have e2 : lb ds k = ds[k] := by unfold lb; rw [List.getD_eq_getElem?_getD, List.getElem?_eq_getElem hk]; rfl
    rw [e2]
    exact ⟨b, off, hh⟩
end

end Go.Proofs.Yteiojobgjdfdpaa
