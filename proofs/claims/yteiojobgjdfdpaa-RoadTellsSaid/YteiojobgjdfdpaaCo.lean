/- Opening of the laws' arguments. -/
import Derived.Test.YteiojobgjdfdpaaCb
import Derived.ProofKit
import Derived.Lib.SmallJoins
namespace Go.Proofs.Yteiojobgjdfdpaa
open Go.ChangeShapes Go.WideShapes Go.ChangeAt Go.RowKit Go.Joins Go.Deep

theorem Try.own : ownKnob Try.prog.godebug = none := by kernel_rfl
theorem Try.laidOut : laidOutB Try.prog = true := by kernel_rfl
theorem Try.cellsArc : Try.prog.cellsOf 39 = 4 := by kernel_rfl
theorem Try.cellsI : Try.prog.cellsOf 3 = 1 := by kernel_rfl
theorem Try.cellsL : Try.prog.cellsOf 32 = 1 := by kernel_rfl

section
variable {H : Type} {enc : TypeId × Value → H} {w : World}
theorem wf_u8 {z : Int} (h : (Lit.int .u8 z).wf = true) : ∃ k : Nat, z = k ∧ k < 256 := by
  have h1 : IntKind.u8.min = 0 := rfl
  have h2 : IntKind.u8.max = 255 := rfl
  simp only [Lit.wf, Bool.and_eq_true, decide_eq_true_eq] at h
  exact ⟨z.toNat, by omega, by omega⟩
theorem wf_u16 {z : Int} (h : (Lit.int .u16 z).wf = true) : ∃ k : Nat, z = k ∧ k < 65536 := by
  have h1 : IntKind.u16.min = 0 := rfl
  have h2 : IntKind.u16.max = 65535 := rfl
  simp only [Lit.wf, Bool.and_eq_true, decide_eq_true_eq] at h
  exact ⟨z.toNat, by omega, by omega⟩
theorem wf_i64 {z : Int} (h : (Lit.int .i64 z).wf = true) : -9223372036854775808 ≤ z ∧ z ≤ 9223372036854775807 := by
  have h1 : IntKind.i64.min = -9223372036854775808 := rfl
  have h2 : IntKind.i64.max = 9223372036854775807 := rfl
  simp only [Lit.wf, Bool.and_eq_true, decide_eq_true_eq] at h
  omega
theorem open_I {v : Value} {d : DataW H} {p : List MemPlace} {r : Reach} {b0 : Nat} (hv : Value.okWide Try.prog w r b0 3 v) (h : DataW.Trod enc Try.prog w 0 (fun _ => true) true 3 v d p) :
    ∃ z : Int, v = .int .i64 z ∧ -9223372036854775808 ≤ z ∧ z ≤ 9223372036854775807 := by
  obtain ⟨z, rfl, _, _, hz⟩ := open_int Try.underlying3 hv h
  exact ⟨z, rfl, wf_i64 hz⟩
theorem open_B {v : Value} {d : DataW H} {p : List MemPlace} {r : Reach} {b0 : Nat} (hv : Value.okWide Try.prog w r b0 5 v) (h : DataW.Trod enc Try.prog w 0 (fun _ => true) true 5 v d p) :
    ∃ k : Nat, v = .int .u8 k ∧ k < 256 := by
  obtain ⟨z, rfl, _, _, hz⟩ := open_int Try.underlying5 hv h
  obtain ⟨k, rfl, hk⟩ := wf_u8 hz
  exact ⟨k, rfl, hk⟩
theorem open_W {v : Value} {d : DataW H} {p : List MemPlace} {r : Reach} {b0 : Nat} (hv : Value.okWide Try.prog w r b0 42 v) (h : DataW.Trod enc Try.prog w 0 (fun _ => true) true 42 v d p) :
    ∃ k : Nat, v = .int .u16 k ∧ k < 65536 := by
  obtain ⟨z, rfl, _, _, hz⟩ := open_int Try.underlying42 hv h
  obtain ⟨k, rfl, hk⟩ := wf_u16 hz
  exact ⟨k, rfl, hk⟩
theorem open_T {v : Value} {d : DataW H} {p : List MemPlace} {r : Reach} {b0 : Nat} (hv : Value.okWide Try.prog w r b0 4 v) (h : DataW.Trod enc Try.prog w 0 (fun _ => true) true 4 v d p) :
    ∃ b : Bool, v = .bool b := by
  obtain ⟨b, rfl, _⟩ := open_bool Try.underlying4 hv h
  exact ⟨b, rfl⟩
set_option maxRecDepth 100000 in
theorem open_list {n : Nat} {v1 : Value} {y1 : DataW H × List MemPlace} (h1 : DataW.trod enc Try.prog w 0 (fun _ => true) true n 32 [v1] = some y1) :
    ∃ (l : List Int) (A : Option Addr) (c : Nat), v1 = .slice A l.length c ∧ IntsAt w.heap.size w A l := by
  rcases open_ints Try.underlying32 Try.underlying3 Try.cellsI h1 with ⟨hcs, _⟩ | ⟨a, len, cap, zs, hcs, _, hl, hm, hz, _, hcell, hwf⟩
  · simp only [List.cons.injEq, and_true] at hcs
    subst hcs
    exact ⟨[], none, 0, rfl, IntsAt.nil _ _ _⟩
  · simp only [List.cons.injEq, and_true] at hcs
    subst hcs
    simp only [if_true] at hz
    have hlen : (zs.take len).length = len := by rw [List.length_take]; omega
    refine ⟨zs.take len, some a, cap, by rw [hlen], fun k hk => ?_⟩
    rw [hlen] at hk
    have hc := hcell k (by omega)
    obtain ⟨b, off, spot⟩ := a
    have hspot : spot = none := by simpa [Addr.add] using World.cell?_spot (hcell 0 (by omega))
    subst hspot
    rw [Go.WideShapes.add_plain] at hc
    refine ⟨b, off, rfl, World.block_lt_of_cell? w _ hc, ?_⟩
    rw [hc, List.getD_eq_getElem?_getD, List.getD_eq_getElem?_getD, List.getElem?_take_of_lt hk]

set_option maxRecDepth 100000 in
theorem open_A {r : Reach} {b0 : Nat} {v : Value} {d : DataW H} {p : List MemPlace} (hv : Value.okWide Try.prog w r b0 39 v) (h : DataW.Trod enc Try.prog w 0 (fun _ => true) true 39 v d p) :
    ∃ (a : Arc) (A A' : Option Addr) (c c' : Nat), v = .agg #[.int .i64 a.f, .int .i64 a.t, .slice A a.lo.length c, .slice A' a.hi.length c'] ∧ ArcM w a A A' := by
  obtain ⟨cs, rfl, hsz⟩ := okWide_struct Try.underlying39 hv
  obtain ⟨l⟩ := cs
  match l, hsz.trans Try.cellsArc with
  | [e0, e1, e2, e3], _ =>
    obtain ⟨fuel, hf⟩ := h
    obtain ⟨y0, y1, y2, y3, n, _, _, g0, g1, g2, g3⟩ := trod_struct4 Try.underlying39 hf
    have g0' : DataW.trod enc Try.prog w 0 (fun _ => true) true n 3 [e0] = some y0 := by simpa [Value.cells, Try.cellsI] using g0
    have g1' : DataW.trod enc Try.prog w 0 (fun _ => true) true n 3 [e1] = some y1 := by simpa [Value.cells, Try.cellsI] using g1
    have g2' : DataW.trod enc Try.prog w 0 (fun _ => true) true n 32 [e2] = some y2 := by simpa [Value.cells, Try.cellsL] using g2
    have g3' : DataW.trod enc Try.prog w 0 (fun _ => true) true n 32 [e3] = some y3 := by simpa [Value.cells, Try.cellsL] using g3
    obtain ⟨F, q0, _, _⟩ := DataW.trod_int Try.underlying3 g0'
    obtain ⟨T, q1, _, _⟩ := DataW.trod_int Try.underlying3 g1'
    simp only [List.cons.injEq, and_true] at q0 q1
    subst q0; subst q1
    obtain ⟨l1, A1, c1, rfl, i1⟩ := open_list g2'
    obtain ⟨l2, A2, c2, rfl, i2⟩ := open_list g3'
    exact ⟨⟨F, T, l1, l2⟩, A1, A2, c1, c2, rfl, i1, i2⟩
end

end Go.Proofs.Yteiojobgjdfdpaa
