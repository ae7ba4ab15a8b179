/- Opening of the laws' arguments: a big integer as it came in, right or not. Boxes of the laws; results for which there is room. Walks: Div by zero. -/
import Derived.Test.YtgpmmpajnfbecaaGreatXah
import Derived.Test.YtgpmmpajnfbecaaGreatXal
import Derived.Lib.SmallJoins
import Derived.Test.YtgpmmpajnfbecaaGreatXak
import Derived.Deep.RegionHeld3

namespace Go.Proofs.YtgpmmpajnfbecaaGreat
open Go.ChangeShapes Go.WideShapes Go.ChangeAt Go.RowKit Go.Joins Go.Deep

/-- A big integer as it came in. -/
structure Ar (w : World) (s : Int) (l : List Int) (A : Option Addr) (n c : Nat) : Prop where
  hn : l.length = n
  hI : IntsAt w.heap.size w A l
  hc : n ≤ c
  hm : c ≤ 9223372036854775807
section
variable {w w' : World} {s : Int} {l : List Int} {A : Option Addr} {n c : Nat}
theorem Ar.later (h : Ar w s l A n c) (hb : Below w.heap.size w w') : Ar w' s l A n c := ⟨h.hn, (h.hI.below hb).more hb.size, h.hc, h.hm⟩
theorem Ar.right (h : Ar w s l A n c) (b : Bool) (hb : b = true ↔ RightP s l) :
    Calls Tryz.prog 76 #[.agg #[.int .i64 s, .slice A n c]] w fun e w' => e = .returned (.bool b) ∧ Below w.heap.size w w' := by
  obtain ⟨rfl, hI, hc, hm⟩ := h
  exact right_any s l A c w hI (by omega) b hb
theorem Ar.z (h : Ar w s l A n c) (hr : RightP s l) : ∃ z, BV w w.heap.size (.agg #[.int .i64 s, .slice A n c]) z ∧ s = sgn z ∧ ab z < pw 60 ∧ ∀ k : Nat, n ≤ k → ab z < pw k := by
  obtain ⟨rfl, hI, hc, hm⟩ := h
  obtain ⟨z, rfl, rfl, h6⟩ := hr
  exact ⟨z, ⟨A, c, rfl, hc, hm, hI⟩, rfl, h6, fun k hk => (D_len_le (ab_nonneg z)).1 hk⟩
end

theorem Tryz.cells39 : Tryz.prog.cellsOf 39 = 2 := by kernel_rfl
theorem Tryz.cells3 : Tryz.prog.cellsOf 3 = 1 := by kernel_rfl
section
variable {H : Type} {enc : TypeId × Value → H} {w : World} {n : Nat} {v : Value} {y : DataW H × List MemPlace}
end

end Go.Proofs.YtgpmmpajnfbecaaGreat

namespace Go.Proofs.YtgpmmpajnfbecaaGreat
open Go.RowKit

theorem fits {z : Int} (h : ab z < pw 60) : fite z = 0 ∧ fitz z = z := ⟨if_pos h, if_pos h⟩
theorem up {z : Int} {k : Nat} (h : ab z < pw k) (hk : k ≤ 60) : ab z < pw 60 := by have := pw_le hk; omega
theorem ab_add_lt {x y : Int} {i j k : Nat} (hx : ab x < pw i) (hy : ab y < pw j) (hi : i < k) (hj : j < k) : ab (x + y) < pw k := by
  have h1 := pw_le (show i ≤ k - 1 by omega)
  have h2 := pw_le (show j ≤ k - 1 by omega)
  have h3 := pw_succ (k - 1)
  rw [show k - 1 + 1 = k by omega] at h3
  have := pw_pos (k - 1)
  unfold ab at *
  omega
theorem ab_mul_lt {x y : Int} {i j k : Nat} (hx : ab x < pw i) (hy : ab y < pw j) (hk : k = i + j) : ab (x * y) < pw k := by
  subst hk
  rw [ab_mul, pw_add]
  have h1 : ab x * ab y ≤ (pw i - 1) * (pw j - 1) := Int.mul_le_mul (by omega) (by omega) (ab_nonneg _) (by have := ab_nonneg x; omega)
  have h2 : (pw i - 1) * (pw j - 1) = pw i * pw j - pw i - pw j + 1 := by rw [Int.sub_mul, Int.mul_sub]; omega
  have := pw_pos i
  have := pw_pos j
  omega

/-- A box that holds a big integer as it came in. -/
structure Aq (W : World) (g : Nat) (s : Int) (l : List Int) (A : Option Addr) (n c : Nat) : Prop where
  blk : Blk W g 39 #[.int .i64 s, .slice A n c]
  ar : Ar W s l A n c
section
variable {W W' w : World} {g g' B : Nat} {s s' s1 s2 s3 : Int} {l l1 l2 l3 : List Int} {A A' A1 A2 A3 : Option Addr} {n c n' c' n1 d1 n2 d2 n3 d3 : Nat} {z z' : Int}
theorem Aq.below (h : Aq W g s l A n c) (hb : Below W.heap.size W W') : Aq W' g s l A n c := ⟨h.blk.below hb h.blk.lt, h.ar.later hb⟩
theorem Aq.c0 (h : Aq W g s l A n c) : W.cell? ⟨g, 0, none⟩ = some (.int .i64 s) := h.blk.cell 0
theorem Aq.c1 (h : Aq W g s l A n c) : W.cell? ⟨g, 1, none⟩ = some (.slice A n c) := h.blk.cell 1
theorem Aq.bx (h : Aq W g s l A n c) (hr : RightP s l) : ∃ z, Bx W g s A n c z ∧ s = sgn z ∧ ∀ k : Nat, n ≤ k → ab z < pw k := by
  obtain ⟨z, h1, h2, _, h3⟩ := h.ar.z hr
  exact ⟨z, ⟨h.blk, h1⟩, h2, h3⟩
/-- A slice's digits do not lie in block g. -/
def Nb (A : Option Addr) (n g : Nat) : Prop := ∀ b off, A = some ⟨b, off, none⟩ → n = 0 ∨ b ≠ g
theorem Nb.low (h : BV w B (.agg #[.int .i64 s, .slice A n c]) z) (hg : B ≤ g) : Nb A n g := by
  intro b off e
  obtain ⟨A', c', e', h1, h2, h3⟩ := h
  injection e' with e'
  have e1 := congrArg (fun (a : Array Value) => a[1]?) e'
  simp at e1
  obtain ⟨rfl, rfl, rfl⟩ := e1
  subst e
  rcases Nat.eq_zero_or_pos (D (ab z)).length with h0 | h0
  · exact .inl h0
  · obtain ⟨b', off', e2, hb, _⟩ := h3 0 h0
    injection e2 with e2
    injection e2 with e3 e4
    exact .inr (by omega)
theorem Nb.high (h : BO w B (.agg #[.int .i64 s, .slice A n c]) z) (hg : g < B) : Nb A n g := by
  intro b off e
  obtain ⟨v, e', ho⟩ := h
  injection e' with e'
  have e1 := congrArg (fun (a : Array Value) => a[1]?) e'
  simp at e1
  subst e
  subst e1
  have := (World.ownsRow.lt ho b rfl).1
  exact .inr (by omega)
theorem BV.set (h : BV w B (.agg #[.int .i64 s, .slice A n c]) z) (hn : Nb A n g) (k : Nat) (u : Value) : BV (w.setCell ⟨g, k, none⟩ u) B (.agg #[.int .i64 s, .slice A n c]) z := by
  obtain ⟨A', c', e', h1, h2, h3⟩ := h
  injection e' with e'
  have e1 := congrArg (fun (a : Array Value) => a[1]?) e'
  have e0 := congrArg (fun (a : Array Value) => a[0]?) e'
  simp at e1 e0
  obtain ⟨rfl, rfl, rfl⟩ := e1
  subst e0
  refine ⟨_, _, rfl, h1, h2, fun j hj => ?_⟩
  obtain ⟨b, off, e2, hb, hc⟩ := h3 j hj
  refine ⟨b, off, e2, hb, ?_⟩
  rcases hn b off e2 with h0 | h0
  · omega
  · exact (World.cell?_setCell_far w ⟨g, k, none⟩ ⟨b, off + j, none⟩ u (fun e => h0 e.symm)).trans hc
theorem Bx.set2 (h : Bx W g' s A n c z) (hg : g' ≠ g) (hn : Nb A n g) (u u' : Value) : Bx ((W.setCell ⟨g, 0, none⟩ u).setCell ⟨g, 1, none⟩ u') g' s A n c z :=
  ⟨(h.blk.far (p := ⟨g, 0, none⟩) hg u).far (p := ⟨g, 1, none⟩) hg u', by
    have h2 := (h.bv.set hn 0 u).set hn 1 u'
    simpa using h2⟩
theorem Bx.put (h : Bx W g s A n c z) (hv : BV W W.heap.size (.agg #[.int .i64 s', .slice A' n' c']) z') (hn : Nb A' n' g) : Bx ((W.setCell ⟨g, 0, none⟩ (.int .i64 s')).setCell ⟨g, 1, none⟩ (.slice A' n' c')) g s' A' n' c' z' :=
  ⟨by simpa using h.blk.set2 (.int .i64 s') (.slice A' n' c'), by
    have h2 := (hv.set hn 0 (.int .i64 s')).set hn 1 (.slice A' n' c')
    simpa using h2⟩
theorem Bx.s0 (h : Bx W g s A n c 0) : s = 0 := by rw [h.sg]; rfl
end

end Go.Proofs.YtgpmmpajnfbecaaGreat

namespace Go.Proofs.YtgpmmpajnfbecaaGreat
open Go.RowKit

end Go.Proofs.YtgpmmpajnfbecaaGreat
