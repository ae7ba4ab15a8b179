/- Opening of the laws' arguments: a big integer as it came in, right or not. -/
import Derived.Test.YtofndidngjglmaaDoorZl
import Derived.Test.YtofndidngjglmaaDoorDj
import Derived.Lib.SmallJoins
namespace Go.Proofs.YtofndidngjglmaaDoor
open Go.ChangeShapes Go.WideShapes Go.ChangeAt Go.RowKit Go.Joins Go.Deep

/-- A big integer as it came in. -/
structure Ar (w : World) (s : Int) (l : List Int) (A : Option Addr) (n c : Nat) : Prop where
  hn : l.length = n
  hI : IntsAt w.heap.size w A l
  hc : n ≤ c
  hm : c ≤ 9223372036854775807
section
variable {w w' : World} {s : Int} {l : List Int} {A : Option Addr} {n c : Nat}
theorem Ar.later (h : Ar w s l A n c) (hb : Below w.heap.size w w') : Ar w' s l A n c := ⟨h.hn, (h.hI.below hb).more hb.size, h.hc, h.hm⟩
theorem Ar.few (h : Ar w s l A n c) (k : Int) (b : Bool) (hb : b = decide ((n : Int) ≤ k)) :
    Calls Tryd.prog 10 #[.agg #[.int .i64 s, .slice A n c], .int .i64 k] w fun e w' => e = .returned (.bool b) ∧ Below w.heap.size w w' := by
  obtain ⟨rfl, hI, hc, hm⟩ := h
  exact few_any s k l A c w b hb
theorem Ar.right (h : Ar w s l A n c) (b : Bool) (hb : b = true ↔ RightP s l) :
    Calls Tryd.prog 11 #[.agg #[.int .i64 s, .slice A n c]] w fun e w' => e = .returned (.bool b) ∧ Below w.heap.size w w' := by
  obtain ⟨rfl, hI, hc, hm⟩ := h
  exact right_any s l A c w hI (by omega) b hb
theorem Ar.z (h : Ar w s l A n c) (hr : RightP s l) : ∃ z, BV w w.heap.size (.agg #[.int .i64 s, .slice A n c]) z ∧ s = sgn z ∧ ab z < pw 60 ∧ ∀ k : Nat, n ≤ k → ab z < pw k := by
  obtain ⟨rfl, hI, hc, hm⟩ := h
  obtain ⟨z, rfl, rfl, h6⟩ := hr
  exact ⟨z, ⟨A, c, rfl, hc, hm, hI⟩, rfl, h6, fun k hk => (D_len_le (ab_nonneg z)).1 hk⟩
end

theorem Tryd.cells24 : Tryd.prog.cellsOf 24 = 2 := by kernel_rfl
theorem Tryd.cells3 : Tryd.prog.cellsOf 3 = 1 := by kernel_rfl
section
variable {H : Type} {enc : TypeId × Value → H} {w : World} {n : Nat} {v : Value} {y : DataW H × List MemPlace}
set_option maxRecDepth 100000 in
theorem open_Big {r : Reach} {b0 : Nat} {d : DataW H} {p : List MemPlace} (hv : Value.okWide Tryd.prog w r b0 24 v) (h : DataW.Trod enc Tryd.prog w 0 (fun _ => true) true 24 v d p) :
    ∃ (s : Int) (l : List Int) (A : Option Addr) (n c : Nat), v = .agg #[.int .i64 s, .slice A n c] ∧ Ar w s l A n c := by
  obtain ⟨v0, v1, y0, y1, n, rfl, _, _, h0, h1⟩ := open_agg2 Tryd.underlying24 (by kernel_rfl) Tryd.cells24 hv h
  obtain ⟨K, e0, _, _⟩ := DataW.trod_int Tryd.underlying3 h0
  simp only [List.cons.injEq, and_true] at e0
  subst e0
  rcases open_ints Tryd.underlying22 Tryd.underlying3 Tryd.cells3 h1 with ⟨hcs, _⟩ | ⟨a, len, cap, zs, hcs, _, hl, hm, hz, _, hcell, hwf⟩
  · simp only [List.cons.injEq, and_true] at hcs
    subst hcs
    exact ⟨K, [], none, 0, 0, rfl, rfl, fun k hk => (by cases hk), Nat.le_refl _, by omega⟩
  · simp only [List.cons.injEq, and_true] at hcs
    subst hcs
    simp only [if_true] at hz
    have hlen : (zs.take len).length = len := by rw [List.length_take]; omega
    refine ⟨K, zs.take len, some a, len, cap, rfl, hlen, fun k hk => ?_, hl, by unfold maxLen at hm; omega⟩
    rw [hlen] at hk
    obtain ⟨b, off, rfl, hc⟩ := ints_at hcell (by omega)
    have h1 := hc k (by omega)
    refine ⟨b, off, rfl, World.block_lt_of_cell? w _ h1, ?_⟩
    rw [h1, List.getD_eq_getElem?_getD, List.getD_eq_getElem?_getD, List.getElem?_take_of_lt hk]

theorem wf_int {z : Int} (h : (Lit.int .i64 z).wf = true) : isI z := by
  have h1 : IntKind.i64.min = -9223372036854775808 := rfl
  have h2 : IntKind.i64.max = 9223372036854775807 := rfl
  simp only [Lit.wf, Bool.and_eq_true, decide_eq_true_eq] at h
  unfold isI
  omega
set_option maxRecDepth 100000 in
theorem open_I {r : Reach} {b0 : Nat} {v : Value} {d : DataW H} {p : List MemPlace} (hv : Value.okWide Tryd.prog w r b0 3 v) (h : DataW.Trod enc Tryd.prog w 0 (fun _ => true) true 3 v d p) :
    ∃ z : Int, v = .int .i64 z ∧ isI z := by
  obtain ⟨z, rfl, _, _, hz⟩ := open_int Tryd.underlying3 hv h
  exact ⟨z, rfl, wf_int hz⟩
set_option maxRecDepth 100000 in
theorem open_S {r : Reach} {b0 : Nat} {v : Value} {d : DataW H} {p : List MemPlace} (hv : Value.okWide Tryd.prog w r b0 9 v) (h : DataW.Trod enc Tryd.prog w 0 (fun _ => true) true 9 v d p) :
    ∃ s : ByteArray, v = .string s ∧ s.size ≤ 9223372036854775807 := by
  obtain ⟨s, rfl, _, _, hs⟩ := ChangeMaps.open_string Tryd.underlying9 hv h
  exact ⟨s, rfl, by unfold maxLen at hs; omega⟩
end

end Go.Proofs.YtofndidngjglmaaDoor
