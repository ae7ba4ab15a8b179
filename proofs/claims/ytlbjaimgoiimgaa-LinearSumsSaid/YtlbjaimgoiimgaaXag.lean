/- Opening of the laws' arguments: a big integer as it came in, right or not. Boxes of the laws; results for which there is room. Walks: Div by zero. What the laws say, in plain. What the law on the greatest common divisor says, in plain. Walks: Gcd where an argument is not right. -/
import Derived.Test.YtlbjaimgoiimgaaXad
import Derived.Test.YtlbjaimgoiimgaaXaf
import Derived.Lib.SmallJoins
import Derived.Deep.RegionHeld3

namespace Go.Proofs.Ytlbjaimgoiimgaa
open Go.ChangeShapes Go.WideShapes Go.ChangeAt Go.RowKit Go.Joins Go.Deep

/-- A big integer as it came in. -/
structure Ar (w : World) (s : Int) (l : List Int) (A : Option Addr) (n c : Nat) : Prop where
  hn : l.length = n
  hI : IntsAt w.heap.size w A l
  hc : n ≤ c
  hm : c ≤ 9223372036854775807
section
variable {w w' : World} {s : Int} {l : List Int} {A : Option Addr} {n c : Nat}
theorem Ar.later (h : Ar w s l A n c) (hb : Below w.heap.size w w') : Ar w' s l A n c := ⟨h.hn, (h.hI.below hb).more hb.size, h.hc, h.hm⟩
theorem Ar.right (h : Ar w s l A n c) (b : Bool) (hb : b = true ↔ RightP s l) :
    Calls Try.prog 47 #[.agg #[.int .i64 s, .slice A n c]] w fun e w' => e = .returned (.bool b) ∧ Below w.heap.size w w' := by
  obtain ⟨rfl, hI, hc, hm⟩ := h
  exact right_any s l A c w hI (by omega) b hb
theorem Ar.z (h : Ar w s l A n c) (hr : RightP s l) : ∃ z, BV w w.heap.size (.agg #[.int .i64 s, .slice A n c]) z ∧ s = sgn z ∧ ab z < pw 60 ∧ ∀ k : Nat, n ≤ k → ab z < pw k := by
  obtain ⟨rfl, hI, hc, hm⟩ := h
  obtain ⟨z, rfl, rfl, h6⟩ := hr
  exact ⟨z, ⟨A, c, rfl, hc, hm, hI⟩, rfl, h6, fun k hk => (D_len_le (ab_nonneg z)).1 hk⟩
end

theorem Try.cells38 : Try.prog.cellsOf 38 = 2 := by kernel_rfl
theorem Try.cells3 : Try.prog.cellsOf 3 = 1 := by kernel_rfl
section
variable {H : Type} {enc : TypeId × Value → H} {w : World} {n : Nat} {v : Value} {y : DataW H × List MemPlace}
set_option maxRecDepth 100000 in
theorem open_Big {r : Reach} {b0 : Nat} {d : DataW H} {p : List MemPlace} (hv : Value.okWide Try.prog w r b0 38 v) (h : DataW.Trod enc Try.prog w 0 (fun _ => true) true 38 v d p) :
    ∃ (s : Int) (l : List Int) (A : Option Addr) (n c : Nat), v = .agg #[.int .i64 s, .slice A n c] ∧ Ar w s l A n c := by
  obtain ⟨v0, v1, y0, y1, n, rfl, _, _, h0, h1⟩ := open_agg2 Try.underlying38 (by kernel_rfl) Try.cells38 hv h
  obtain ⟨K, e0, _, _⟩ := DataW.trod_int Try.underlying3 h0
  simp only [List.cons.injEq, and_true] at e0
  subst e0
  rcases open_ints Try.underlying36 Try.underlying3 Try.cells3 h1 with ⟨hcs, _⟩ | ⟨a, len, cap, zs, hcs, _, hl, hm, hz, _, hcell, hwf⟩
  · simp only [List.cons.injEq, and_true] at hcs
    subst hcs
    exact ⟨K, [], none, 0, 0, rfl, rfl, fun k hk => (by cases hk), Nat.le_refl _, by omega⟩
  · simp only [List.cons.injEq, and_true] at hcs
    subst hcs
    simp only [if_true] at hz
    have hlen : (zs.take len).length = len := by rw [List.length_take]; omega
    refine ⟨K, zs.take len, some a, len, cap, rfl, hlen, fun k hk => ?_, hl, by unfold maxLen at hm; omega⟩
    rw [hlen] at hk
    obtain ⟨b, off, rfl, hc⟩ := ints_at hcell (by omega)
    have h1 := hc k (by omega)
    refine ⟨b, off, rfl, World.block_lt_of_cell? w _ h1, ?_⟩
    rw [h1, List.getD_eq_getElem?_getD, List.getD_eq_getElem?_getD, List.getElem?_take_of_lt hk]

theorem wf_int {z : Int} (h : (Lit.int .i64 z).wf = true) : isI z := by
  have h1 : IntKind.i64.min = -9223372036854775808 := rfl
  have h2 : IntKind.i64.max = 9223372036854775807 := rfl
  simp only [Lit.wf, Bool.and_eq_true, decide_eq_true_eq] at h
  unfold isI
  omega
set_option maxRecDepth 100000 in
theorem open_I {r : Reach} {b0 : Nat} {v : Value} {d : DataW H} {p : List MemPlace} (hv : Value.okWide Try.prog w r b0 3 v) (h : DataW.Trod enc Try.prog w 0 (fun _ => true) true 3 v d p) :
    ∃ z : Int, v = .int .i64 z ∧ isI z := by
  obtain ⟨z, rfl, _, _, hz⟩ := open_int Try.underlying3 hv h
  exact ⟨z, rfl, wf_int hz⟩
set_option maxRecDepth 100000 in
theorem open_S {r : Reach} {b0 : Nat} {v : Value} {d : DataW H} {p : List MemPlace} (hv : Value.okWide Try.prog w r b0 9 v) (h : DataW.Trod enc Try.prog w 0 (fun _ => true) true 9 v d p) :
    ∃ s : ByteArray, v = .string s ∧ s.size ≤ 9223372036854775807 := by
  obtain ⟨s, rfl, _, _, hs⟩ := ChangeMaps.open_string Try.underlying9 hv h
  exact ⟨s, rfl, by unfold maxLen at hs; omega⟩
end

end Go.Proofs.Ytlbjaimgoiimgaa

namespace Go.Proofs.Ytlbjaimgoiimgaa
open Go.RowKit

theorem fits {z : Int} (h : ab z < pw 60) : fite z = 0 ∧ fitz z = z := ⟨if_pos h, if_pos h⟩
theorem up {z : Int} {k : Nat} (h : ab z < pw k) (hk : k ≤ 60) : ab z < pw 60 := by have := pw_le hk; omega
theorem ab_add_lt {x y : Int} {i j k : Nat} (hx : ab x < pw i) (hy : ab y < pw j) (hi : i < k) (hj : j < k) : ab (x + y) < pw k := by
  have h1 := pw_le (show i ≤ k - 1 by omega)
  have h2 := pw_le (show j ≤ k - 1 by omega)
  have h3 := pw_succ (k - 1)
  rw [show k - 1 + 1 = k by omega] at h3
  have := pw_pos (k - 1)
  unfold ab at *
  omega
theorem ab_sub_lt {x y : Int} {i j k : Nat} (hx : ab x < pw i) (hy : ab y < pw j) (hi : i < k) (hj : j < k) : ab (x - y) < pw k := by
  rw [Int.sub_eq_add_neg]
  exact ab_add_lt hx (by rw [ab_neg]; exact hy) hi hj
theorem ab_mul_lt {x y : Int} {i j k : Nat} (hx : ab x < pw i) (hy : ab y < pw j) (hk : k = i + j) : ab (x * y) < pw k := by
  subst hk
  rw [ab_mul, pw_add]
  have h1 : ab x * ab y ≤ (pw i - 1) * (pw j - 1) := Int.mul_le_mul (by omega) (by omega) (ab_nonneg _) (by have := ab_nonneg x; omega)
  have h2 : (pw i - 1) * (pw j - 1) = pw i * pw j - pw i - pw j + 1 := by rw [Int.sub_mul, Int.mul_sub]; omega
  have := pw_pos i
  have := pw_pos j
  omega

/-- A box that holds a big integer as it came in. -/
structure Aq (W : World) (g : Nat) (s : Int) (l : List Int) (A : Option Addr) (n c : Nat) : Prop where
  blk : Blk W g 38 #[.int .i64 s, .slice A n c]
  ar : Ar W s l A n c
section
variable {W W' w : World} {g g' B : Nat} {s s' s1 s2 s3 : Int} {l l1 l2 l3 : List Int} {A A' A1 A2 A3 : Option Addr} {n c n' c' n1 d1 n2 d2 n3 d3 : Nat} {z z' : Int}
theorem Aq.below (h : Aq W g s l A n c) (hb : Below W.heap.size W W') : Aq W' g s l A n c := ⟨h.blk.below hb h.blk.lt, h.ar.later hb⟩
theorem Aq.c0 (h : Aq W g s l A n c) : W.cell? ⟨g, 0, none⟩ = some (.int .i64 s) := h.blk.cell 0
theorem Aq.c1 (h : Aq W g s l A n c) : W.cell? ⟨g, 1, none⟩ = some (.slice A n c) := h.blk.cell 1
theorem Aq.bx (h : Aq W g s l A n c) (hr : RightP s l) : ∃ z, Bx W g s A n c z ∧ s = sgn z ∧ ∀ k : Nat, n ≤ k → ab z < pw k := by
  obtain ⟨z, h1, h2, _, h3⟩ := h.ar.z hr
  exact ⟨z, ⟨h.blk, h1⟩, h2, h3⟩
theorem abox1 (h1 : Ar w s1 l1 A1 n1 d1) : ∃ W, W = w.alloc (.cells #[.int .i64 s1, .slice A1 n1 d1] 38) ∧ Below w.heap.size w W ∧ Aq W w.heap.size s1 l1 A1 n1 d1 := by
  have hb : Below w.heap.size w (w.alloc (.cells #[.int .i64 s1, .slice A1 n1 d1] 38)) := (Below.refl _ _).alloc (Nat.le_refl _) _
  exact ⟨_, rfl, hb, Blk.new _ _ _, h1.later hb⟩
theorem abox2 (h1 : Ar w s1 l1 A1 n1 d1) (h2 : Ar w s2 l2 A2 n2 d2) :
    ∃ W, W = (w.alloc (.cells #[.int .i64 s1, .slice A1 n1 d1] 38)).alloc (.cells #[.int .i64 s2, .slice A2 n2 d2] 38) ∧ Below w.heap.size w W ∧ Aq W w.heap.size s1 l1 A1 n1 d1 ∧ Aq W (w.heap.size + 1) s2 l2 A2 n2 d2 := by
  obtain ⟨W, hW, hb, k1, k2, _⟩ := boxes2 w #[.int .i64 s1, .slice A1 n1 d1] #[.int .i64 s2, .slice A2 n2 d2]
  exact ⟨W, hW, hb, ⟨k1, h1.later hb⟩, ⟨k2, h2.later hb⟩⟩
theorem abox3 (h1 : Ar w s1 l1 A1 n1 d1) (h2 : Ar w s2 l2 A2 n2 d2) (h3 : Ar w s3 l3 A3 n3 d3) :
    ∃ W, W = ((w.alloc (.cells #[.int .i64 s1, .slice A1 n1 d1] 38)).alloc (.cells #[.int .i64 s2, .slice A2 n2 d2] 38)).alloc (.cells #[.int .i64 s3, .slice A3 n3 d3] 38) ∧ Below w.heap.size w W ∧ Aq W w.heap.size s1 l1 A1 n1 d1 ∧ Aq W (w.heap.size + 1) s2 l2 A2 n2 d2 ∧ Aq W (w.heap.size + 1 + 1) s3 l3 A3 n3 d3 := by
  obtain ⟨W, hW, hb, k1, k2, k3, _⟩ := boxes3 w #[.int .i64 s1, .slice A1 n1 d1] #[.int .i64 s2, .slice A2 n2 d2] #[.int .i64 s3, .slice A3 n3 d3]
  exact ⟨W, hW, hb, ⟨k1, h1.later hb⟩, ⟨k2, h2.later hb⟩, ⟨k3, h3.later hb⟩⟩

/-- A slice's digits do not lie in block g. -/
def Nb (A : Option Addr) (n g : Nat) : Prop := ∀ b off, A = some ⟨b, off, none⟩ → n = 0 ∨ b ≠ g
theorem Nb.low (h : BV w B (.agg #[.int .i64 s, .slice A n c]) z) (hg : B ≤ g) : Nb A n g := by
  intro b off e
  obtain ⟨A', c', e', h1, h2, h3⟩ := h
  injection e' with e'
  have e1 := congrArg (fun (a : Array Value) => a[1]?) e'
  simp at e1
  obtain ⟨rfl, rfl, rfl⟩ := e1
  subst e
  rcases Nat.eq_zero_or_pos (D (ab z)).length with h0 | h0
  · exact .inl h0
  · obtain ⟨b', off', e2, hb, _⟩ := h3 0 h0
    injection e2 with e2
    injection e2 with e3 e4
    exact .inr (by omega)
theorem Nb.high (h : BO w B (.agg #[.int .i64 s, .slice A n c]) z) (hg : g < B) : Nb A n g := by
  intro b off e
  obtain ⟨v, e', ho⟩ := h
  injection e' with e'
  have e1 := congrArg (fun (a : Array Value) => a[1]?) e'
  simp at e1
  subst e
  subst e1
  have := (World.ownsRow.lt ho b rfl).1
  exact .inr (by omega)
theorem BV.set (h : BV w B (.agg #[.int .i64 s, .slice A n c]) z) (hn : Nb A n g) (k : Nat) (u : Value) : BV (w.setCell ⟨g, k, none⟩ u) B (.agg #[.int .i64 s, .slice A n c]) z := by
  obtain ⟨A', c', e', h1, h2, h3⟩ := h
  injection e' with e'
  have e1 := congrArg (fun (a : Array Value) => a[1]?) e'
  have e0 := congrArg (fun (a : Array Value) => a[0]?) e'
  simp at e1 e0
  obtain ⟨rfl, rfl, rfl⟩ := e1
  subst e0
  refine ⟨_, _, rfl, h1, h2, fun j hj => ?_⟩
  obtain ⟨b, off, e2, hb, hc⟩ := h3 j hj
  refine ⟨b, off, e2, hb, ?_⟩
  rcases hn b off e2 with h0 | h0
  · omega
  · exact (World.cell?_setCell_far w ⟨g, k, none⟩ ⟨b, off + j, none⟩ u (fun e => h0 e.symm)).trans hc
theorem Bx.set2 (h : Bx W g' s A n c z) (hg : g' ≠ g) (hn : Nb A n g) (u u' : Value) : Bx ((W.setCell ⟨g, 0, none⟩ u).setCell ⟨g, 1, none⟩ u') g' s A n c z :=
  ⟨(h.blk.far (p := ⟨g, 0, none⟩) hg u).far (p := ⟨g, 1, none⟩) hg u', by
    have h2 := (h.bv.set hn 0 u).set hn 1 u'
    simpa using h2⟩
theorem Bx.put (h : Bx W g s A n c z) (hv : BV W W.heap.size (.agg #[.int .i64 s', .slice A' n' c']) z') (hn : Nb A' n' g) : Bx ((W.setCell ⟨g, 0, none⟩ (.int .i64 s')).setCell ⟨g, 1, none⟩ (.slice A' n' c')) g s' A' n' c' z' :=
  ⟨by simpa using h.blk.set2 (.int .i64 s') (.slice A' n' c'), by
    have h2 := (hv.set hn 0 (.int .i64 s')).set hn 1 (.slice A' n' c')
    simpa using h2⟩
theorem Bx.s0 (h : Bx W g s A n c 0) : s = 0 := by rw [h.sg]; rfl
end

end Go.Proofs.Ytlbjaimgoiimgaa

namespace Go.Proofs.Ytlbjaimgoiimgaa
open Go.RowKit

set_option maxRecDepth 100000 in
set_option maxHeartbeats 4000000 in
theorem div_zero (x : Int) (vx vy : Value) (w : World) (hx : BV w w.heap.size vx x) (hy : BV w w.heap.size vy 0) (hx6 : ab x < pw 60) :
    Calls Try.prog 75 #[vx, vy] w fun e w' => e = .returned (.tuple #[.agg #[.int .i64 0, .slice none 0 0], .agg #[.int .i64 0, .slice none 0 0], .int .i64 15]) ∧ Below w.heap.size w w' := by
  obtain ⟨A1, c1, rfl, hc1, hm1, hI1⟩ := hx
  obtain ⟨A2, c2, rfl, hc2, hm2, hI2⟩ := hy
  have hl1 := len60 hx6
  have h0 : ab (0 : Int) < pw 60 := by rw [ab_zero]; exact pw_pos 60
  have hl2 := len60 h0
  have hr1 := fun (w' : World) (hb : Below w.heap.size w w') => right_any (sgn x) (D (ab x)) A1 c1 w' ((hI1.below hb).more hb.size) (by omega) true (by simp [rightP_of hx6])
  have hr2 := fun (w' : World) (hb : Below w.heap.size w w') => right_any (sgn 0) (D (ab 0)) A2 c2 w' ((hI2.below hb).more hb.size) (by omega) true (by simp [rightP_of h0])
  rw [sgn_zero] at hr2 ⊢
  obtain ⟨n1, hn1⟩ : ∃ n, (D (ab x)).length = n := ⟨_, rfl⟩
  obtain ⟨n2, hn2⟩ : ∃ n, (D (ab (0 : Int))).length = n := ⟨_, rfl⟩
  obtain ⟨s1, hs1e⟩ : ∃ s, sgn x = s := ⟨_, rfl⟩
  rw [hs1e, hn1] at hr1 ⊢
  rw [hn2] at hr2 ⊢
  have HR1 := Lib.hid hr1; clear hr1
  have HR2 := Lib.hid hr2; clear hr2
  clear hn1 hn2 hs1e hI1 hI2 hx6 hc1 hc2 hl1 hl2 h0 hm1 hm2
  go_enter Try.func75, Try.ntmps75
  go_wp2_with fail
  obtain ⟨w1, hw1, hb1, k1, k2, k3, k4, hsz⟩ := boxes4 w #[.int .i64 s1, .slice A1 n1 c1] #[.int .i64 0, .slice A2 n2 c2] #[.int .i64 0, .slice none 0 0] #[.int .i64 0, .slice none 0 0]
  rw [← hw1]
  clear hw1
  (with_reducible refine (HR1.out w1 hb1).mono ?_)
  rintro e w2 ⟨rfl, hb2⟩
  have k2 := k2.below hb2 k2.lt
  have k3 := k3.below hb2 k3.lt
  have k4 := k4.below hb2 k4.lt
  have hb2 := hb1.trans (hb2.mono hb1.size)
  have j1 : w2.cell? ⟨w.heap.size + 1, 0, none⟩ = some (.int .i64 0) := k2.cell 0
  have j2 : w2.cell? ⟨w.heap.size + 1, 1, none⟩ = some (.slice A2 n2 c2) := k2.cell 1
  go_wp2_with fail
  (with_reducible refine (HR2.out w2 hb2).mono ?_)
  rintro e w3 ⟨rfl, hb3⟩
  clear j1 j2
  have k2 := k2.below hb3 k2.lt
  have k3 := k3.below hb3 k3.lt
  have k4 := k4.below hb3 k4.lt
  have hb3 := hb2.trans (hb3.mono hb2.size)
  clear hb1 hb2 HR1 HR2 hsz
  have j0 : w3.cell? ⟨w.heap.size + 1, 0, none⟩ = some (.int .i64 0) := k2.cell 0
  obtain ⟨g, hg⟩ : ∃ g, w.heap.size + 1 + 1 = g := ⟨_, rfl⟩
  have hgw : w.heap.size ≤ g := by omega
  rw [hg] at k3 k4 ⊢
  clear hg
  have c30 : w3.cell? ⟨g, 0, none⟩ = some (.int .i64 0) := k3.cell 0
  have c31 : w3.cell? ⟨g, 1, none⟩ = some (.slice none 0 0) := k3.cell 1
  have c40 : w3.cell? ⟨g + 1, 0, none⟩ = some (.int .i64 0) := k4.cell 0
  have c41 : w3.cell? ⟨g + 1, 1, none⟩ = some (.slice none 0 0) := k4.cell 1
  have f30 := k3.frozen 0
  have f31 := k3.frozen 1
  have f40 := k4.frozen 0
  have f41 := k4.frozen 1
  have hbs := k3.set2 (.int .i64 0) (.slice none 0 0)
  have hbs' := (hbs.far (p := ⟨g + 1, 0, none⟩) (by simp) (.int .i64 0)).far (p := ⟨g + 1, 1, none⟩) (by simp) (.slice none 0 0)
  have hbt := ((k4.far (p := ⟨g, 0, none⟩) (by simp) (.int .i64 0)).far (p := ⟨g, 1, none⟩) (by simp) (.slice none 0 0)).set2 (.int .i64 0) (.slice none 0 0)
  have d0 := hbs'.cell 0
  have d1 := hbs'.cell 1
  have d2 := hbt.cell 0
  have d3 := hbt.cell 1
  simp at d0 d1 d2 d3
  have hb4 := (((hb3.setCell (p := ⟨g, 0, none⟩) hgw (.int .i64 0)).setCell (p := ⟨g, 1, none⟩) hgw (.slice none 0 0)).setCell (p := ⟨g + 1, 0, none⟩) (by show w.heap.size ≤ g + 1; omega) (.int .i64 0)).setCell (p := ⟨g + 1, 1, none⟩) (by show w.heap.size ≤ g + 1; omega) (.slice none 0 0)
  go_wp2_with fail
  refine bodyPost_ret (v := .tuple #[.agg #[.int .i64 0, .slice none 0 0], .agg #[.int .i64 0, .slice none 0 0], .int .i64 15]) (by simp [results, Try.results75, go_sem, d0, d1, d2, d3]) rfl ?_
  exact ⟨rfl, hb4⟩

end Go.Proofs.Ytlbjaimgoiimgaa

namespace Go.Proofs.Ytlbjaimgoiimgaa
open Go.RowKit

theorem cmp_cases (x y : Int) : (x < y ∧ Lib.compareInt x y = -1) ∨ (x = y ∧ Lib.compareInt x y = 0) ∨ (y < x ∧ Lib.compareInt x y = 1) := by
  unfold Lib.compareInt
  rcases Int.lt_trichotomy x y with h | h | h
  · exact .inl ⟨h, if_pos h⟩
  · exact .inr (.inl ⟨h, by rw [if_neg (by omega), if_neg (by omega)]⟩)
  · exact .inr (.inr ⟨h, by rw [if_neg (by omega), if_pos (by omega)]⟩)
theorem cmp_sub (x y : Int) : sgn (x - y) = Lib.compareInt x y := by
  rcases cmp_cases x y with ⟨h, e⟩ | ⟨h, e⟩ | ⟨h, e⟩ <;> rw [e] <;> unfold sgn
  · rw [if_pos (by omega)]
  · rw [if_neg (by omega), if_pos (by omega)]
  · rw [if_neg (by omega), if_neg (by omega)]
theorem cmp_neg (x y : Int) : Lib.compareInt y x = -Lib.compareInt x y := by
  rcases cmp_cases x y with ⟨h, e⟩ | ⟨h, e⟩ | ⟨h, e⟩ <;> rcases cmp_cases y x with ⟨h', e'⟩ | ⟨h', e'⟩ | ⟨h', e'⟩ <;> omega
theorem cmp_add (x y z : Int) : Lib.compareInt (x + z) (y + z) = Lib.compareInt x y := by
  rw [← cmp_sub, ← cmp_sub]
  congr 1
  omega
theorem cmp_mul (x y z : Int) : Lib.compareInt (x * z) (y * z) = Lib.compareInt x y * sgn z := by
  rw [← cmp_sub, ← cmp_sub, ← sgn_mul, Int.sub_mul]
theorem cmp_zero (x y : Int) : (Lib.compareInt x y == 0) = decide (x = y) := by
  rcases cmp_cases x y with ⟨h, e⟩ | ⟨h, e⟩ | ⟨h, e⟩ <;> rw [e]
  · rw [decide_eq_false (by omega)]; rfl
  · rw [decide_eq_true h]; rfl
  · rw [decide_eq_false (by omega)]; rfl
theorem cmp_bd (x y : Int) : -1 ≤ Lib.compareInt x y ∧ Lib.compareInt x y ≤ 1 := by
  rcases cmp_cases x y with ⟨h, e⟩ | ⟨h, e⟩ | ⟨h, e⟩ <;> omega
theorem cmp_gt {x y : Int} : 0 < Lib.compareInt x y ↔ y < x := by
  rcases cmp_cases x y with ⟨h, e⟩ | ⟨h, e⟩ | ⟨h, e⟩ <;> omega
theorem cmp_le {x y : Int} : Lib.compareInt x y ≤ 0 ↔ x ≤ y := by
  rcases cmp_cases x y with ⟨h, e⟩ | ⟨h, e⟩ | ⟨h, e⟩ <;> omega

theorem sgn_mul_bd {a b : Int} (ha : -1 ≤ a ∧ a ≤ 1) (hb : -1 ≤ b ∧ b ≤ 1) : -1 ≤ a * b ∧ a * b ≤ 1 := by
  have h : a = -1 ∨ a = 0 ∨ a = 1 := by omega
  rcases h with rfl | rfl | rfl <;> omega

/-- With one digit more. -/
theorem itoa_seven {x : Int} (hx : x ≠ 0) : Lib.itoa x ++ [55] = Lib.itoa (10 * x + 7 * sgn x) := by
  rw [itoa_ab, itoa_ab (10 * x + 7 * sgn x)]
  have hab : (ab (10 * x + 7 * sgn x)).toNat = 10 * (ab x).toNat + 7 := by
    rcases Int.lt_trichotomy x 0 with h | h | h
    · rw [sgn_of_neg h]; unfold ab; omega
    · omega
    · rw [sgn_pos h]; unfold ab; omega
  have hs : (10 * x + 7 * sgn x < 0) ↔ x < 0 := by
    rcases Int.lt_trichotomy x 0 with h | h | h
    · rw [sgn_of_neg h]; omega
    · omega
    · rw [sgn_pos h]; omega
  rw [hab, dd_ge (n := 10 * (ab x).toNat + 7) (by have : (ab x).toNat ≠ 0 := by { unfold ab; omega }; omega)]
  have h1 : (10 * (ab x).toNat + 7) / 10 = (ab x).toNat := by omega
  have h2 : (10 * (ab x).toNat + 7) % 10 = 7 := by omega
  rw [h1, h2, List.append_assoc]
  have h3 : (UInt8.ofNat (48 + 7)) = 55 := rfl
  rw [h3]
  by_cases h : x < 0
  · rw [if_pos h, if_pos (hs.2 h)]
  · rw [if_neg h, if_neg (fun h' => h (hs.1 h'))]
theorem seven_big {x : Int} (h : ¬ ab (10 * x) < pw 60) : ¬ ab (10 * x + 7 * sgn x) < pw 60 := by
  have : ab (10 * x) ≤ ab (10 * x + 7 * sgn x) := by
    rcases Int.lt_trichotomy x 0 with h | h | h
    · rw [sgn_of_neg h]; unfold ab; omega
    · subst h; rw [sgn_zero]; unfold ab; omega
    · rw [sgn_pos h]; unfold ab; omega
  omega

end Go.Proofs.Ytlbjaimgoiimgaa

namespace Go.Proofs.Ytlbjaimgoiimgaa
open Go.RowKit

theorem sgn_eq_zero {z : Int} (h : sgn z = 0) : z = 0 := by
  unfold sgn at h
  split at h
  · omega
  · split at h
    · assumption
    · omega
theorem sgn_neg_iff {z : Int} (h : -1 = sgn z) : z < 0 := by
  unfold sgn at h
  split at h
  · assumption
  · split at h <;> omega
theorem sgn_nonneg_iff {z : Int} (h : sgn z ≠ -1) : 0 ≤ z := by
  unfold sgn at h
  split at h
  · exact absurd rfl h
  · omega
theorem BO.s0 {w : World} {B : Nat} {s : Int} {A : Option Addr} {n c : Nat} (h : BO w B (.agg #[.int .i64 s, .slice A n c]) 0) : s = 0 := by
  obtain ⟨v, e, _⟩ := h
  injection e with e
  have e0 := congrArg (fun (a : Array Value) => a[0]?) e
  simp at e0
  rw [e0]; rfl
theorem gcd_pos {x y : Int} (h : x ≠ 0 ∨ y ≠ 0) : 0 < ((Int.gcd x y : Nat) : Int) := by
  have : 0 < Int.gcd x y := Nat.pos_of_ne_zero (fun h0 => by
    obtain ⟨h1, h2⟩ := Int.gcd_eq_zero_iff.1 h0
    rcases h with h | h <;> contradiction)
  omega
theorem gcd_lt {x y : Int} {k : Nat} (hx : ab x < pw k) (hy : ab y < pw k) : ab ((Int.gcd x y : Nat) : Int) < pw k := by
  have h1 : ab ((Int.gcd x y : Nat) : Int) = ((Int.gcd x y : Nat) : Int) := by unfold ab; omega
  rw [h1]
  by_cases h : x = 0
  · subst h
    rw [Int.gcd_zero_left]
    exact hy
  · have := Nat.gcd_le_left y.natAbs (show 0 < x.natAbs by omega)
    unfold ab at hx
    have e : Int.gcd x y = Nat.gcd x.natAbs y.natAbs := rfl
    omega
theorem gcd_neg (x y : Int) : Int.gcd (-y) x = Int.gcd x y := by rw [Int.neg_gcd, Int.gcd_comm]
theorem qr_dvd {x d q r : Int} (h : QR x d q r) (hd : d ∣ x) : r = 0 := by
  obtain ⟨h1, _, h3, _⟩ := h
  have h4 : d ∣ r := by
    have : r = x - q * d := by omega
    rw [this]
    exact Int.dvd_sub hd (Int.dvd_mul_left q d)
  rcases Int.natAbs_eq_zero.1 (Nat.eq_zero_of_dvd_of_lt (Int.natAbs_dvd_natAbs.2 h4) (by unfold ab at h3; omega)) with h5
  exact h5
theorem gcd_rem {x y q r : Int} (h : QR y x q r) : Int.gcd x r = Int.gcd x y := by
  have h1 : y = r + q * x := by have := h.1; omega
  rw [h1, Int.gcd_add_mul_right_right]
theorem gcd_factor (x y z : Int) : ((Int.gcd (x * z) (y * z) : Nat) : Int) = ((Int.gcd x y : Nat) : Int) * ab z := by
  rw [Int.gcd_mul_right]
  unfold ab
  omega

end Go.Proofs.Ytlbjaimgoiimgaa

namespace Go.Proofs.Ytlbjaimgoiimgaa
open Go.RowKit

set_option maxRecDepth 100000 in
set_option maxHeartbeats 2000000 in
theorem gcd_bad {s1 s2 : Int} {l1 l2 : List Int} {A1 A2 : Option Addr} {n1 c1 n2 c2 : Nat} {w : World} (h1 : Ar w s1 l1 A1 n1 c1) (h2 : Ar w s2 l2 A2 n2 c2) (hb : ¬ (RightP s1 l1 ∧ RightP s2 l2)) :
    Calls Try.prog 33 #[.agg #[.int .i64 s1, .slice A1 n1 c1], .agg #[.int .i64 s2, .slice A2 n2 c2]] w fun e w' => e = .returned (.tuple #[.agg #[.int .i64 0, .slice none 0 0], .int .i64 1]) ∧ Below w.heap.size w w' := by
  have hH := fun (w' : World) (h : Below w.heap.size w w') (b : Bool) => (h1.later h).right b
  have hG := fun (w' : World) (h : Below w.heap.size w w') (b : Bool) => (h2.later h).right b
  have HH := Lib.hid hH; clear hH
  have HG := Lib.hid hG; clear hG
  have HB := Lib.hid hb; clear hb
  by_cases hr : RightP s1 l1
  · have hn : ¬ RightP s2 l2 := fun h => HB.out ⟨hr, h⟩
    have HR := Lib.hid hr; clear hr
    have HN := Lib.hid hn; clear hn
    clear h1 h2
    go_enter Try.func33, Try.ntmps33
    go_wp2_with fail
    obtain ⟨w1, hw1, hb1, k1, k2, k3, _⟩ := boxes3 w #[.int .i64 s1, .slice A1 n1 c1] #[.int .i64 s2, .slice A2 n2 c2] #[.int .i64 0, .slice none 0 0]
    rw [← hw1]
    clear hw1
    (with_reducible refine (HH.out w1 hb1 true (by simp [HR.out])).mono ?_)
    rintro e w2 ⟨rfl, hb2⟩
    have k2 := k2.below hb2 k2.lt
    have k3 := k3.below hb2 k3.lt
    have hb2 := hb1.trans (hb2.mono hb1.size)
    have j1 : w2.cell? ⟨w.heap.size + 1, 0, none⟩ = some (.int .i64 s2) := k2.cell 0
    have j2 : w2.cell? ⟨w.heap.size + 1, 1, none⟩ = some (.slice A2 n2 c2) := k2.cell 1
    go_wp2_with fail
    clear j1 j2
    (with_reducible refine (HG.out w2 hb2 false (by simp [HN.out])).mono ?_)
    rintro e w3 ⟨rfl, hb3⟩
    have k3 := k3.below hb3 k3.lt
    have hb3 := hb2.trans (hb3.mono hb2.size)
    clear k1 k2 hb1 hb2 HH HG
    obtain ⟨g, hg⟩ : ∃ g, w.heap.size + 1 + 1 = g := ⟨_, rfl⟩
    have hgw : w.heap.size ≤ g := by omega
    rw [hg] at k3 ⊢
    clear hg
    have c30 : w3.cell? ⟨g, 0, none⟩ = some (.int .i64 0) := k3.cell 0
    have c31 : w3.cell? ⟨g, 1, none⟩ = some (.slice none 0 0) := k3.cell 1
    have f30 := k3.frozen 0
    have f31 := k3.frozen 1
    have hbs := k3.set2 (.int .i64 0) (.slice none 0 0)
    have d0 := hbs.cell 0
    have d1 := hbs.cell 1
    simp at d0 d1
    have hb9 := (hb3.setCell (p := ⟨g, 0, none⟩) hgw (.int .i64 0)).setCell (p := ⟨g, 1, none⟩) hgw (.slice none 0 0)
    go_wp2_with fail
    refine bodyPost_ret (v := .tuple #[.agg #[.int .i64 0, .slice none 0 0], .int .i64 1]) (by simp [results, Try.results33, go_sem, d0, d1]) rfl ?_
    exact ⟨rfl, hb9⟩
  · have HN := Lib.hid hr; clear hr
    clear h1 h2
    go_enter Try.func33, Try.ntmps33
    go_wp2_with fail
    obtain ⟨w1, hw1, hb1, k1, k2, k3, _⟩ := boxes3 w #[.int .i64 s1, .slice A1 n1 c1] #[.int .i64 s2, .slice A2 n2 c2] #[.int .i64 0, .slice none 0 0]
    rw [← hw1]
    clear hw1
    (with_reducible refine (HH.out w1 hb1 false (by simp [HN.out])).mono ?_)
    rintro e w2 ⟨rfl, hb2⟩
    have k3 := k3.below hb2 k3.lt
    have hb2 := hb1.trans (hb2.mono hb1.size)
    clear k1 k2 hb1 HH HG
    obtain ⟨g, hg⟩ : ∃ g, w.heap.size + 1 + 1 = g := ⟨_, rfl⟩
    have hgw : w.heap.size ≤ g := by omega
    rw [hg] at k3 ⊢
    clear hg
    have c30 : w2.cell? ⟨g, 0, none⟩ = some (.int .i64 0) := k3.cell 0
    have c31 : w2.cell? ⟨g, 1, none⟩ = some (.slice none 0 0) := k3.cell 1
    have f30 := k3.frozen 0
    have f31 := k3.frozen 1
    have hbs := k3.set2 (.int .i64 0) (.slice none 0 0)
    have d0 := hbs.cell 0
    have d1 := hbs.cell 1
    simp at d0 d1
    have hb9 := (hb2.setCell (p := ⟨g, 0, none⟩) hgw (.int .i64 0)).setCell (p := ⟨g, 1, none⟩) hgw (.slice none 0 0)
    go_wp2_with fail
    refine bodyPost_ret (v := .tuple #[.agg #[.int .i64 0, .slice none 0 0], .int .i64 1]) (by simp [results, Try.results33, go_sem, d0, d1]) rfl ?_
    exact ⟨rfl, hb9⟩

end Go.Proofs.Ytlbjaimgoiimgaa
