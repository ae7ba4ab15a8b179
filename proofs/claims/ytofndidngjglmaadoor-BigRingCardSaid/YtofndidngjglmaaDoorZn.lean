/- Boxes of the laws; results for which there is room. -/
import Derived.Test.YtofndidngjglmaaDoorZm
import Derived.Test.YtofndidngjglmaaDoorY
import Derived.Deep.RegionHeld3
namespace Go.Proofs.YtofndidngjglmaaDoor
open Go.RowKit

theorem fits {z : Int} (h : ab z < pw 60) : fite z = 0 ∧ fitz z = z := ⟨if_pos h, if_pos h⟩
theorem up {z : Int} {k : Nat} (h : ab z < pw k) (hk : k ≤ 60) : ab z < pw 60 := by have := pw_le hk; omega
theorem ab_add_lt {x y : Int} {i j k : Nat} (hx : ab x < pw i) (hy : ab y < pw j) (hi : i < k) (hj : j < k) : ab (x + y) < pw k := by
  have h1 := pw_le (show i ≤ k - 1 by omega)
  have h2 := pw_le (show j ≤ k - 1 by omega)
  have h3 := pw_succ (k - 1)
  rw [show k - 1 + 1 = k by omega] at h3
  have := pw_pos (k - 1)
  unfold ab at *
  omega
theorem ab_sub_lt {x y : Int} {i j k : Nat} (hx : ab x < pw i) (hy : ab y < pw j) (hi : i < k) (hj : j < k) : ab (x - y) < pw k := by
  rw [Int.sub_eq_add_neg]
  exact ab_add_lt hx (by rw [ab_neg]; exact hy) hi hj
theorem ab_mul_lt {x y : Int} {i j k : Nat} (hx : ab x < pw i) (hy : ab y < pw j) (hk : k = i + j) : ab (x * y) < pw k := by
  subst hk
  rw [ab_mul, pw_add]
  have h1 : ab x * ab y ≤ (pw i - 1) * (pw j - 1) := Int.mul_le_mul (by omega) (by omega) (ab_nonneg _) (by have := ab_nonneg x; omega)
  have h2 : (pw i - 1) * (pw j - 1) = pw i * pw j - pw i - pw j + 1 := by rw [Int.sub_mul, Int.mul_sub]; omega
  have := pw_pos i
  have := pw_pos j
  omega

/-- A box that holds a big integer as it came in. -/
structure Aq (W : World) (g : Nat) (s : Int) (l : List Int) (A : Option Addr) (n c : Nat) : Prop where
  blk : Blk W g 24 #[.int .i64 s, .slice A n c]
  ar : Ar W s l A n c
section
variable {W W' w : World} {g g' B : Nat} {s s' s1 s2 s3 : Int} {l l1 l2 l3 : List Int} {A A' A1 A2 A3 : Option Addr} {n c n' c' n1 d1 n2 d2 n3 d3 : Nat} {z z' : Int}
theorem Aq.below (h : Aq W g s l A n c) (hb : Below W.heap.size W W') : Aq W' g s l A n c := ⟨h.blk.below hb h.blk.lt, h.ar.later hb⟩
theorem Aq.c0 (h : Aq W g s l A n c) : W.cell? ⟨g, 0, none⟩ = some (.int .i64 s) := h.blk.cell 0
theorem Aq.c1 (h : Aq W g s l A n c) : W.cell? ⟨g, 1, none⟩ = some (.slice A n c) := h.blk.cell 1
theorem Aq.bx (h : Aq W g s l A n c) (hr : RightP s l) : ∃ z, Bx W g s A n c z ∧ s = sgn z ∧ ∀ k : Nat, n ≤ k → ab z < pw k := by
  obtain ⟨z, h1, h2, _, h3⟩ := h.ar.z hr
  exact ⟨z, ⟨h.blk, h1⟩, h2, h3⟩
theorem abox1 (h1 : Ar w s1 l1 A1 n1 d1) : ∃ W, W = w.alloc (.cells #[.int .i64 s1, .slice A1 n1 d1] 24) ∧ Below w.heap.size w W ∧ Aq W w.heap.size s1 l1 A1 n1 d1 := by
  have hb : Below w.heap.size w (w.alloc (.cells #[.int .i64 s1, .slice A1 n1 d1] 24)) := (Below.refl _ _).alloc (Nat.le_refl _) _
  exact ⟨_, rfl, hb, Blk.new _ _ _, h1.later hb⟩
theorem abox2 (h1 : Ar w s1 l1 A1 n1 d1) (h2 : Ar w s2 l2 A2 n2 d2) :
    ∃ W, W = (w.alloc (.cells #[.int .i64 s1, .slice A1 n1 d1] 24)).alloc (.cells #[.int .i64 s2, .slice A2 n2 d2] 24) ∧ Below w.heap.size w W ∧ Aq W w.heap.size s1 l1 A1 n1 d1 ∧ Aq W (w.heap.size + 1) s2 l2 A2 n2 d2 := by
  obtain ⟨W, hW, hb, k1, k2, _⟩ := boxes2 w #[.int .i64 s1, .slice A1 n1 d1] #[.int .i64 s2, .slice A2 n2 d2]
  exact ⟨W, hW, hb, ⟨k1, h1.later hb⟩, ⟨k2, h2.later hb⟩⟩
theorem abox3 (h1 : Ar w s1 l1 A1 n1 d1) (h2 : Ar w s2 l2 A2 n2 d2) (h3 : Ar w s3 l3 A3 n3 d3) :
    ∃ W, W = ((w.alloc (.cells #[.int .i64 s1, .slice A1 n1 d1] 24)).alloc (.cells #[.int .i64 s2, .slice A2 n2 d2] 24)).alloc (.cells #[.int .i64 s3, .slice A3 n3 d3] 24) ∧ Below w.heap.size w W ∧ Aq W w.heap.size s1 l1 A1 n1 d1 ∧ Aq W (w.heap.size + 1) s2 l2 A2 n2 d2 ∧ Aq W (w.heap.size + 1 + 1) s3 l3 A3 n3 d3 := by
  obtain ⟨W, hW, hb, k1, k2, k3, _⟩ := boxes3 w #[.int .i64 s1, .slice A1 n1 d1] #[.int .i64 s2, .slice A2 n2 d2] #[.int .i64 s3, .slice A3 n3 d3]
  exact ⟨W, hW, hb, ⟨k1, h1.later hb⟩, ⟨k2, h2.later hb⟩, ⟨k3, h3.later hb⟩⟩

/-- A slice's digits do not lie in block g. -/
def Nb (A : Option Addr) (n g : Nat) : Prop := ∀ b off, A = some ⟨b, off, none⟩ → n = 0 ∨ b ≠ g
theorem Nb.low (h : BV w B (.agg #[.int .i64 s, .slice A n c]) z) (hg : B ≤ g) : Nb A n g := by
  intro b off e
  obtain ⟨A', c', e', h1, h2, h3⟩ := h
  injection e' with e'
  have e1 := congrArg (fun (a : Array Value) => a[1]?) e'
  simp at e1
  obtain ⟨rfl, rfl, rfl⟩ := e1
  subst e
  rcases Nat.eq_zero_or_pos (D (ab z)).length with h0 | h0
  · exact .inl h0
  · obtain ⟨b', off', e2, hb, _⟩ := h3 0 h0
    injection e2 with e2
    injection e2 with e3 e4
    exact .inr (by omega)
theorem Nb.high (h : BO w B (.agg #[.int .i64 s, .slice A n c]) z) (hg : g < B) : Nb A n g := by
  intro b off e
  obtain ⟨v, e', ho⟩ := h
  injection e' with e'
  have e1 := congrArg (fun (a : Array Value) => a[1]?) e'
  simp at e1
  subst e
  subst e1
  have := (World.ownsRow.lt ho b rfl).1
  exact .inr (by omega)
theorem BV.set (h : BV w B (.agg #[.int .i64 s, .slice A n c]) z) (hn : Nb A n g) (k : Nat) (u : Value) : BV (w.setCell ⟨g, k, none⟩ u) B (.agg #[.int .i64 s, .slice A n c]) z := by
  obtain ⟨A', c', e', h1, h2, h3⟩ := h
  injection e' with e'
  have e1 := congrArg (fun (a : Array Value) => a[1]?) e'
  have e0 := congrArg (fun (a : Array Value) => a[0]?) e'
  simp at e1 e0
  obtain ⟨rfl, rfl, rfl⟩ := e1
  subst e0
  refine ⟨_, _, rfl, h1, h2, fun j hj => ?_⟩
  obtain ⟨b, off, e2, hb, hc⟩ := h3 j hj
  refine ⟨b, off, e2, hb, ?_⟩
  rcases hn b off e2 with h0 | h0
  · omega
  · exact (World.cell?_setCell_far w ⟨g, k, none⟩ ⟨b, off + j, none⟩ u (fun e => h0 e.symm)).trans hc
theorem Bx.set2 (h : Bx W g' s A n c z) (hg : g' ≠ g) (hn : Nb A n g) (u u' : Value) : Bx ((W.setCell ⟨g, 0, none⟩ u).setCell ⟨g, 1, none⟩ u') g' s A n c z :=
  ⟨(h.blk.far (p := ⟨g, 0, none⟩) hg u).far (p := ⟨g, 1, none⟩) hg u', by
    have h2 := (h.bv.set hn 0 u).set hn 1 u'
    simpa using h2⟩
theorem Bx.put (h : Bx W g s A n c z) (hv : BV W W.heap.size (.agg #[.int .i64 s', .slice A' n' c']) z') (hn : Nb A' n' g) : Bx ((W.setCell ⟨g, 0, none⟩ (.int .i64 s')).setCell ⟨g, 1, none⟩ (.slice A' n' c')) g s' A' n' c' z' :=
  ⟨by simpa using h.blk.set2 (.int .i64 s') (.slice A' n' c'), by
    have h2 := (hv.set hn 0 (.int .i64 s')).set hn 1 (.slice A' n' c')
    simpa using h2⟩
theorem Bx.s0 (h : Bx W g s A n c 0) : s = 0 := by rw [h.sg]; rfl
end

end Go.Proofs.YtofndidngjglmaaDoor
