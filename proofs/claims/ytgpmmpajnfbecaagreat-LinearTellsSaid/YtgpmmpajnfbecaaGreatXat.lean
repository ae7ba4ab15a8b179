/- Walks: Text of a right fraction. Walks: Right of a fraction as it came in; Text of what is not right. Opening of the laws' arguments: a fraction as it came in. -/
import Derived.Test.YtgpmmpajnfbecaaGreatXas
import Derived.Test.YtgpmmpajnfbecaaGreatXai
import Derived.Laws.Concat
import Derived.Test.YtgpmmpajnfbecaaGreatXah

namespace Go.Proofs.YtgpmmpajnfbecaaGreat
open Go.RowKit

end Go.Proofs.YtgpmmpajnfbecaaGreat

namespace Go.Proofs.YtgpmmpajnfbecaaGreat
open Go.RowKit

/-- Signs and digits that are a right fraction. -/
def RF (s1 : Int) (l1 : List Int) (s2 : Int) (l2 : List Int) : Prop := ∃ p q, (s1 = sgn p ∧ l1 = D (ab p) ∧ ab p < pw 60) ∧ (s2 = sgn q ∧ l2 = D (ab q) ∧ ab q < pw 60) ∧ FR p q
theorem int_of_parts {x y : Int} (h1 : sgn x = sgn y) (h2 : D (ab x) = D (ab y)) : x = y := by
  have h3 := congrArg nv h2
  rw [nv_D (ab_nonneg x), nv_D (ab_nonneg y)] at h3
  have h4 := sgn_ab x
  have h5 := sgn_ab y
  rw [h1, h3] at h4
  exact h4.symm.trans h5
theorem RF.iff {p q : Int} (h1 : ab p < pw 60) (h2 : ab q < pw 60) : RF (sgn p) (D (ab p)) (sgn q) (D (ab q)) ↔ FR p q := by
  constructor
  · rintro ⟨p', q', ⟨a1, a2, _⟩, ⟨b1, b2, _⟩, h⟩
    obtain rfl := int_of_parts a1 a2
    obtain rfl := int_of_parts b1 b2
    exact h
  · intro h
    exact ⟨p, q, ⟨rfl, rfl, h1⟩, ⟨rfl, rfl, h2⟩, h⟩
theorem RF.right {s1 s2 : Int} {l1 l2 : List Int} (h : RF s1 l1 s2 l2) : RightP s1 l1 ∧ RightP s2 l2 := by
  obtain ⟨p, q, ⟨a1, a2, a3⟩, ⟨b1, b2, b3⟩, _⟩ := h
  exact ⟨⟨p, a1, a2, a3⟩, ⟨q, b1, b2, b3⟩⟩
theorem Ar.bv {w : World} {s z : Int} {l : List Int} {A : Option Addr} {n c : Nat} (h : Ar w s l A n c) (hs : s = sgn z) (hl : l = D (ab z)) : BV w w.heap.size (.agg #[.int .i64 s, .slice A n c]) z := by
  obtain ⟨rfl, hI, hc, hm⟩ := h
  subst hs hl
  exact ⟨A, c, rfl, hc, hm, hI⟩
theorem Ar.lt {w : World} {s z : Int} {l : List Int} {A : Option Addr} {n c k : Nat} (h : Ar w s l A n c) (hl : l = D (ab z)) (hk : n ≤ k) : ab z < pw k := by
  obtain ⟨rfl, _, _, _⟩ := h
  subst hl
  exact (D_len_le (ab_nonneg z)).1 hk
/-- A fraction as it came in, that is right, reads as one. -/
theorem RF.fv {s1 s2 : Int} {l1 l2 : List Int} {A1 A2 : Option Addr} {n1 d1 n2 d2 : Nat} {w : World} (h : RF s1 l1 s2 l2) (h1 : Ar w s1 l1 A1 n1 d1) (h2 : Ar w s2 l2 A2 n2 d2) :
    ∃ r : Rat, FV w w.heap.size s1 A1 n1 d1 s2 A2 n2 d2 r.num r.den ∧ s1 = sgn r.num ∧ ab r.num < pw 60 ∧ ab (r.den : Int) < pw 60 ∧ (∀ k : Nat, n1 ≤ k → ab r.num < pw k) ∧ (∀ k : Nat, n2 ≤ k → ab (r.den : Int) < pw k) := by
  obtain ⟨p, q, ⟨a1, a2, a3⟩, ⟨b1, b2, b3⟩, hf⟩ := h
  obtain ⟨r, rfl, rfl⟩ := hf.rat
  exact ⟨r, ⟨h1.bv a1 a2, h2.bv b1 b2⟩, a1, a3, b3, fun k hk => h1.lt a2 hk, fun k hk => h2.lt b2 hk⟩

/-- Right, at whatever came in. -/
theorem fright_any {s1 s2 : Int} {l1 l2 : List Int} {A1 A2 : Option Addr} {n1 d1 n2 d2 : Nat} (w : World) (h1 : Ar w s1 l1 A1 n1 d1) (h2 : Ar w s2 l2 A2 n2 d2) (b : Bool) (hb : b = true ↔ RF s1 l1 s2 l2) :
    Calls Tryz.prog 30 #[.agg #[.int .i64 s1, .slice A1 n1 d1, .int .i64 s2, .slice A2 n2 d2]] w fun e w' => e = .returned (.bool b) ∧ Below w.heap.size w w' := by
  by_cases hr : RightP s1 l1 ∧ RightP s2 l2
  · obtain ⟨⟨p, rfl, rfl, a3⟩, ⟨q, rfl, rfl, b3⟩⟩ := hr
    have hf : FV w w.heap.size (sgn p) A1 n1 d1 (sgn q) A2 n2 d2 p q := ⟨h1.bv rfl rfl, h2.bv rfl rfl⟩
    rw [RF.iff a3 b3] at hb
    by_cases h0 : 0 < q
    · refine fright_pos w hf a3 b3 h0 b ?_
      rw [Bool.eq_iff_iff, hb]
      simp only [decide_eq_true_eq]
      exact ⟨fun h => ⟨h0, h⟩, fun h => FR.one h⟩
    · have : b = false := by
        rcases b with _ | _
        · rfl
        · exact absurd (FR.pos (hb.1 rfl)) h0
      subst this
      exact fright_low w hf a3 b3 h0
  · have : b = false := by
      rcases b with _ | _
      · rfl
      · exact absurd (hb.1 rfl).right hr
    subst this
    exact fright_bad w h1 h2 hr

end Go.Proofs.YtgpmmpajnfbecaaGreat

namespace Go.Proofs.YtgpmmpajnfbecaaGreat
open Go.ChangeShapes Go.WideShapes Go.ChangeAt Go.RowKit Go.Joins Go.Deep

theorem Tryz.cells41 : Tryz.prog.cellsOf 41 = 4 := by kernel_rfl
theorem Tryz.cells37 : Tryz.prog.cellsOf 37 = 1 := by kernel_rfl
section
variable {H : Type} {enc : TypeId × Value → H} {w : World}
set_option maxRecDepth 100000 in
theorem open_part {n : Nat} {v0 v1 : Value} {y0 y1 : DataW H × List MemPlace} (h0 : DataW.trod enc Tryz.prog w 0 (fun _ => true) true n 3 [v0] = some y0) (h1 : DataW.trod enc Tryz.prog w 0 (fun _ => true) true n 37 [v1] = some y1) :
    ∃ (s : Int) (l : List Int) (A : Option Addr) (n c : Nat), v0 = .int .i64 s ∧ v1 = .slice A n c ∧ Ar w s l A n c := by
  obtain ⟨K, e0, _, _⟩ := DataW.trod_int Tryz.underlying3 h0
  simp only [List.cons.injEq, and_true] at e0
  subst e0
  rcases open_ints Tryz.underlying37 Tryz.underlying3 Tryz.cells3 h1 with ⟨hcs, _⟩ | ⟨a, len, cap, zs, hcs, _, hl, hm, hz, _, hcell, hwf⟩
  · simp only [List.cons.injEq, and_true] at hcs
    subst hcs
    exact ⟨K, [], none, 0, 0, rfl, rfl, rfl, fun k hk => (by cases hk), Nat.le_refl _, by omega⟩
  · simp only [List.cons.injEq, and_true] at hcs
    subst hcs
    simp only [if_true] at hz
    have hlen : (zs.take len).length = len := by rw [List.length_take]; omega
    refine ⟨K, zs.take len, some a, len, cap, rfl, rfl, hlen, fun k hk => ?_, hl, by unfold maxLen at hm; omega⟩
    rw [hlen] at hk
    obtain ⟨b, off, rfl, hc⟩ := ints_at hcell (by omega)
    have h1 := hc k (by omega)
    refine ⟨b, off, rfl, World.block_lt_of_cell? w _ h1, ?_⟩
    rw [h1, List.getD_eq_getElem?_getD, List.getD_eq_getElem?_getD, List.getElem?_take_of_lt hk]

end

end Go.Proofs.YtgpmmpajnfbecaaGreat
