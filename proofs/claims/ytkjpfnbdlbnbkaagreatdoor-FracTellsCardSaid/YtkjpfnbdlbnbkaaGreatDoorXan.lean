/- What the law on ints needs in plain. Opening of the laws' arguments: a big integer as it came in, right or not. Boxes of the laws; results for which there is room. -/
import Derived.Test.YtkjpfnbdlbnbkaaGreatDoorXam
import Derived.Test.YtkjpfnbdlbnbkaaGreatDoorXaj
import Derived.Lib.SmallJoins
import Derived.Deep.RegionHeld3

namespace Go.Proofs.YtkjpfnbdlbnbkaaGreatDoor
open Go.RowKit

theorem right_yes (z : Int) (v : Value) (w : World) (h : BV w w.heap.size v z) (hz : ab z < pw 60) :
    Calls Tryz.prog 22 #[v] w fun e w' => e = .returned (.bool true) ∧ Below w.heap.size w w' := by
  obtain ⟨A, c, rfl, hlc, hcm, hI⟩ := h
  have := len60 hz
  exact right_any (sgn z) (D (ab z)) A c w hI (by omega) true (by simp [rightP_of hz])

theorem itoa_inj {a b : Int} (h : Lib.itoa a = Lib.itoa b) : a = b := by
  have h1 := cut_itoa a
  have h2 := cut_itoa b
  rw [h] at h1
  have h3 : decide (a < 0) = decide (b < 0) := h1.1.symm.trans h2.1
  have h4 : Lib.decDigits (ab a).toNat = Lib.decDigits (ab b).toNat := h1.2.symm.trans h2.2
  have h5 := congrArg dv h4
  rw [dv_dd, dv_dd] at h5
  have h6 : a < 0 ↔ b < 0 := by simpa using h3
  unfold ab at h5
  omega
theorem byt_inj {a b : List UInt8} (h : byt a = byt b) : a = b := by rw [← bts_byt a, ← bts_byt b, h]

theorem toList_ne {S1 S2 : ByteArray} (h : S1 ≠ S2) : (S1.toList == S2.toList) = false := by
  rw [beq_eq_false_iff_ne]
  intro e
  rw [ByteArray.toList_eq, ByteArray.toList_eq] at e
  exact h (ByteArray.ext (Array.toList_inj.1 e))
theorem isI.lo {z : Int} (h : isI z) : -9223372036854775808 ≤ z := h.1
theorem isI.hi {z : Int} (h : isI z) : z ≤ 9223372036854775807 := h.2
theorem isI.lt {z : Int} (h : isI z) : ab z < pw 60 := lt60 (by unfold isI at h; unfold ab; omega)
theorem isI.add {a b : Int} (ha : isI a) (hb : isI b) : ab (a + b) < pw 60 := lt60 (by unfold isI at *; unfold ab; omega)
theorem isI.sub {a b : Int} (ha : isI a) (hb : isI b) : ab (a - b) < pw 60 := lt60 (by unfold isI at *; unfold ab; omega)
theorem pw7 : pw 7 = 1393796574908163946345982392040522594123776 := by decide
theorem isI.mul {a b : Int} (ha : isI a) (hb : isI b) : ab (a * b) < pw 60 := by
  have h7 := pw_le (show 7 ≤ 60 by omega)
  rw [pw7] at h7
  rw [ab_mul]
  have h1 : ab a ≤ 9223372036854775808 := by unfold isI at ha; unfold ab; omega
  have h2 : ab b ≤ 9223372036854775808 := by unfold isI at hb; unfold ab; omega
  have h3 : ab a * ab b ≤ 9223372036854775808 * 9223372036854775808 := Int.mul_le_mul h1 h2 (ab_nonneg _) (by omega)
  omega
theorem isI.neg {a : Int} (ha : isI a) : ab (-a) < pw 60 := by rw [ab_neg]; exact ha.lt
theorem half_mul {a b : Int} (ha : -1073741824 < a ∧ a < 1073741824) (hb : -1073741824 < b ∧ b < 1073741824) : -1152921504606846976 ≤ a * b ∧ a * b ≤ 1152921504606846976 := by
  have h1 : ab a ≤ 1073741824 := by unfold ab; omega
  have h2 : ab b ≤ 1073741824 := by unfold ab; omega
  have h3 : ab a * ab b ≤ 1073741824 * 1073741824 := Int.mul_le_mul h1 h2 (ab_nonneg _) (by omega)
  rw [← ab_mul] at h3
  unfold ab at h3
  omega
theorem addP {a b : Int} (ha : isI a) (hb : isI b) : fite (a + b) = 0 ∧ fitz (a + b) = a + b := ⟨if_pos (ha.add hb), if_pos (ha.add hb)⟩
theorem subP {a b : Int} (ha : isI a) (hb : isI b) : fite (a - b) = 0 ∧ fitz (a - b) = a - b := ⟨if_pos (ha.sub hb), if_pos (ha.sub hb)⟩
theorem mulP {a b : Int} (ha : isI a) (hb : isI b) : fite (a * b) = 0 ∧ fitz (a * b) = a * b := ⟨if_pos (ha.mul hb), if_pos (ha.mul hb)⟩

end Go.Proofs.YtkjpfnbdlbnbkaaGreatDoor

namespace Go.Proofs.YtkjpfnbdlbnbkaaGreatDoor
open Go.ChangeShapes Go.WideShapes Go.ChangeAt Go.RowKit Go.Joins Go.Deep

/-- A big integer as it came in. -/
structure Ar (w : World) (s : Int) (l : List Int) (A : Option Addr) (n c : Nat) : Prop where
  hn : l.length = n
  hI : IntsAt w.heap.size w A l
  hc : n ≤ c
  hm : c ≤ 9223372036854775807
section
variable {w w' : World} {s : Int} {l : List Int} {A : Option Addr} {n c : Nat}
theorem Ar.later (h : Ar w s l A n c) (hb : Below w.heap.size w w') : Ar w' s l A n c := ⟨h.hn, (h.hI.below hb).more hb.size, h.hc, h.hm⟩
theorem Ar.few (h : Ar w s l A n c) (k : Int) (b : Bool) (hb : b = decide ((n : Int) ≤ k)) :
    Calls Tryz.prog 6 #[.agg #[.int .i64 s, .slice A n c], .int .i64 k] w fun e w' => e = .returned (.bool b) ∧ Below w.heap.size w w' := by
  obtain ⟨rfl, hI, hc, hm⟩ := h
  exact few_any s k l A c w b hb
theorem Ar.right (h : Ar w s l A n c) (b : Bool) (hb : b = true ↔ RightP s l) :
    Calls Tryz.prog 22 #[.agg #[.int .i64 s, .slice A n c]] w fun e w' => e = .returned (.bool b) ∧ Below w.heap.size w w' := by
  obtain ⟨rfl, hI, hc, hm⟩ := h
  exact right_any s l A c w hI (by omega) b hb
theorem Ar.z (h : Ar w s l A n c) (hr : RightP s l) : ∃ z, BV w w.heap.size (.agg #[.int .i64 s, .slice A n c]) z ∧ s = sgn z ∧ ab z < pw 60 ∧ ∀ k : Nat, n ≤ k → ab z < pw k := by
  obtain ⟨rfl, hI, hc, hm⟩ := h
  obtain ⟨z, rfl, rfl, h6⟩ := hr
  exact ⟨z, ⟨A, c, rfl, hc, hm, hI⟩, rfl, h6, fun k hk => (D_len_le (ab_nonneg z)).1 hk⟩
end

theorem Tryz.cells24 : Tryz.prog.cellsOf 24 = 2 := by kernel_rfl
theorem Tryz.cells3 : Tryz.prog.cellsOf 3 = 1 := by kernel_rfl
section
variable {H : Type} {enc : TypeId × Value → H} {w : World} {n : Nat} {v : Value} {y : DataW H × List MemPlace}
set_option maxRecDepth 100000 in
theorem open_Big {r : Reach} {b0 : Nat} {d : DataW H} {p : List MemPlace} (hv : Value.okWide Tryz.prog w r b0 24 v) (h : DataW.Trod enc Tryz.prog w 0 (fun _ => true) true 24 v d p) :
    ∃ (s : Int) (l : List Int) (A : Option Addr) (n c : Nat), v = .agg #[.int .i64 s, .slice A n c] ∧ Ar w s l A n c := by
  obtain ⟨v0, v1, y0, y1, n, rfl, _, _, h0, h1⟩ := open_agg2 Tryz.underlying24 (by kernel_rfl) Tryz.cells24 hv h
  obtain ⟨K, e0, _, _⟩ := DataW.trod_int Tryz.underlying3 h0
  simp only [List.cons.injEq, and_true] at e0
  subst e0
  rcases open_ints Tryz.underlying22 Tryz.underlying3 Tryz.cells3 h1 with ⟨hcs, _⟩ | ⟨a, len, cap, zs, hcs, _, hl, hm, hz, _, hcell, hwf⟩
  · simp only [List.cons.injEq, and_true] at hcs
    subst hcs
    exact ⟨K, [], none, 0, 0, rfl, rfl, fun k hk => (by cases hk), Nat.le_refl _, by omega⟩
  · simp only [List.cons.injEq, and_true] at hcs
    subst hcs
    simp only [if_true] at hz
    have hlen : (zs.take len).length = len := by rw [List.length_take]; omega
    refine ⟨K, zs.take len, some a, len, cap, rfl, hlen, fun k hk => ?_, hl, by unfold maxLen at hm; omega⟩
    rw [hlen] at hk
    obtain ⟨b, off, rfl, hc⟩ := ints_at hcell (by omega)
    have h1 := hc k (by omega)
    refine ⟨b, off, rfl, World.block_lt_of_cell? w _ h1, ?_⟩
    rw [h1, List.getD_eq_getElem?_getD, List.getD_eq_getElem?_getD, List.getElem?_take_of_lt hk]

theorem wf_int {z : Int} (h : (Lit.int .i64 z).wf = true) : isI z := by
  have h1 : IntKind.i64.min = -9223372036854775808 := rfl
  have h2 : IntKind.i64.max = 9223372036854775807 := rfl
  simp only [Lit.wf, Bool.and_eq_true, decide_eq_true_eq] at h
  unfold isI
  omega
set_option maxRecDepth 100000 in
theorem open_I {r : Reach} {b0 : Nat} {v : Value} {d : DataW H} {p : List MemPlace} (hv : Value.okWide Tryz.prog w r b0 3 v) (h : DataW.Trod enc Tryz.prog w 0 (fun _ => true) true 3 v d p) :
    ∃ z : Int, v = .int .i64 z ∧ isI z := by
  obtain ⟨z, rfl, _, _, hz⟩ := open_int Tryz.underlying3 hv h
  exact ⟨z, rfl, wf_int hz⟩
set_option maxRecDepth 100000 in
theorem open_S {r : Reach} {b0 : Nat} {v : Value} {d : DataW H} {p : List MemPlace} (hv : Value.okWide Tryz.prog w r b0 9 v) (h : DataW.Trod enc Tryz.prog w 0 (fun _ => true) true 9 v d p) :
    ∃ s : ByteArray, v = .string s ∧ s.size ≤ 9223372036854775807 := by
  obtain ⟨s, rfl, _, _, hs⟩ := ChangeMaps.open_string Tryz.underlying9 hv h
  exact ⟨s, rfl, by unfold maxLen at hs; omega⟩
end

end Go.Proofs.YtkjpfnbdlbnbkaaGreatDoor

namespace Go.Proofs.YtkjpfnbdlbnbkaaGreatDoor
open Go.RowKit

theorem fits {z : Int} (h : ab z < pw 60) : fite z = 0 ∧ fitz z = z := ⟨if_pos h, if_pos h⟩
theorem up {z : Int} {k : Nat} (h : ab z < pw k) (hk : k ≤ 60) : ab z < pw 60 := by have := pw_le hk; omega
theorem ab_add_lt {x y : Int} {i j k : Nat} (hx : ab x < pw i) (hy : ab y < pw j) (hi : i < k) (hj : j < k) : ab (x + y) < pw k := by
  have h1 := pw_le (show i ≤ k - 1 by omega)
  have h2 := pw_le (show j ≤ k - 1 by omega)
  have h3 := pw_succ (k - 1)
  rw [show k - 1 + 1 = k by omega] at h3
  have := pw_pos (k - 1)
  unfold ab at *
  omega
theorem ab_sub_lt {x y : Int} {i j k : Nat} (hx : ab x < pw i) (hy : ab y < pw j) (hi : i < k) (hj : j < k) : ab (x - y) < pw k := by
  rw [Int.sub_eq_add_neg]
  exact ab_add_lt hx (by rw [ab_neg]; exact hy) hi hj
theorem ab_mul_lt {x y : Int} {i j k : Nat} (hx : ab x < pw i) (hy : ab y < pw j) (hk : k = i + j) : ab (x * y) < pw k := by
  subst hk
  rw [ab_mul, pw_add]
  have h1 : ab x * ab y ≤ (pw i - 1) * (pw j - 1) := Int.mul_le_mul (by omega) (by omega) (ab_nonneg _) (by have := ab_nonneg x; omega)
  have h2 : (pw i - 1) * (pw j - 1) = pw i * pw j - pw i - pw j + 1 := by rw [Int.sub_mul, Int.mul_sub]; omega
  have := pw_pos i
  have := pw_pos j
  omega

/-- A box that holds a big integer as it came in. -/
structure Aq (W : World) (g : Nat) (s : Int) (l : List Int) (A : Option Addr) (n c : Nat) : Prop where
  blk : Blk W g 24 #[.int .i64 s, .slice A n c]
  ar : Ar W s l A n c
section
variable {W W' w : World} {g g' B : Nat} {s s' s1 s2 s3 : Int} {l l1 l2 l3 : List Int} {A A' A1 A2 A3 : Option Addr} {n c n' c' n1 d1 n2 d2 n3 d3 : Nat} {z z' : Int}
theorem Aq.below (h : Aq W g s l A n c) (hb : Below W.heap.size W W') : Aq W' g s l A n c := ⟨h.blk.below hb h.blk.lt, h.ar.later hb⟩
theorem Aq.c0 (h : Aq W g s l A n c) : W.cell? ⟨g, 0, none⟩ = some (.int .i64 s) := h.blk.cell 0
theorem Aq.c1 (h : Aq W g s l A n c) : W.cell? ⟨g, 1, none⟩ = some (.slice A n c) := h.blk.cell 1
theorem Aq.bx (h : Aq W g s l A n c) (hr : RightP s l) : ∃ z, Bx W g s A n c z ∧ s = sgn z ∧ ∀ k : Nat, n ≤ k → ab z < pw k := by
  obtain ⟨z, h1, h2, _, h3⟩ := h.ar.z hr
  exact ⟨z, ⟨h.blk, h1⟩, h2, h3⟩
theorem abox1 (h1 : Ar w s1 l1 A1 n1 d1) : ∃ W, W = w.alloc (.cells #[.int .i64 s1, .slice A1 n1 d1] 24) ∧ Below w.heap.size w W ∧ Aq W w.heap.size s1 l1 A1 n1 d1 := by
  have hb : Below w.heap.size w (w.alloc (.cells #[.int .i64 s1, .slice A1 n1 d1] 24)) := (Below.refl _ _).alloc (Nat.le_refl _) _
  exact ⟨_, rfl, hb, Blk.new _ _ _, h1.later hb⟩
theorem abox2 (h1 : Ar w s1 l1 A1 n1 d1) (h2 : Ar w s2 l2 A2 n2 d2) :
    ∃ W, W = (w.alloc (.cells #[.int .i64 s1, .slice A1 n1 d1] 24)).alloc (.cells #[.int .i64 s2, .slice A2 n2 d2] 24) ∧ Below w.heap.size w W ∧ Aq W w.heap.size s1 l1 A1 n1 d1 ∧ Aq W (w.heap.size + 1) s2 l2 A2 n2 d2 := by
  obtain ⟨W, hW, hb, k1, k2, _⟩ := boxes2 w #[.int .i64 s1, .slice A1 n1 d1] #[.int .i64 s2, .slice A2 n2 d2]
  exact ⟨W, hW, hb, ⟨k1, h1.later hb⟩, ⟨k2, h2.later hb⟩⟩
theorem abox3 (h1 : Ar w s1 l1 A1 n1 d1) (h2 : Ar w s2 l2 A2 n2 d2) (h3 : Ar w s3 l3 A3 n3 d3) :
    ∃ W, W = ((w.alloc (.cells #[.int .i64 s1, .slice A1 n1 d1] 24)).alloc (.cells #[.int .i64 s2, .slice A2 n2 d2] 24)).alloc (.cells #[.int .i64 s3, .slice A3 n3 d3] 24) ∧ Below w.heap.size w W ∧ Aq W w.heap.size s1 l1 A1 n1 d1 ∧ Aq W (w.heap.size + 1) s2 l2 A2 n2 d2 ∧ Aq W (w.heap.size + 1 + 1) s3 l3 A3 n3 d3 := by
  obtain ⟨W, hW, hb, k1, k2, k3, _⟩ := boxes3 w #[.int .i64 s1, .slice A1 n1 d1] #[.int .i64 s2, .slice A2 n2 d2] #[.int .i64 s3, .slice A3 n3 d3]
  exact ⟨W, hW, hb, ⟨k1, h1.later hb⟩, ⟨k2, h2.later hb⟩, ⟨k3, h3.later hb⟩⟩

/-- A slice's digits do not lie in block g. -/
def Nb (A : Option Addr) (n g : Nat) : Prop := ∀ b off, A = some ⟨b, off, none⟩ → n = 0 ∨ b ≠ g
theorem Nb.low (h : BV w B (.agg #[.int .i64 s, .slice A n c]) z) (hg : B ≤ g) : Nb A n g := by
  intro b off e
  obtain ⟨A', c', e', h1, h2, h3⟩ := h
  injection e' with e'
  have e1 := congrArg (fun (a : Array Value) => a[1]?) e'
  simp at e1
  obtain ⟨rfl, rfl, rfl⟩ := e1
  subst e
  rcases Nat.eq_zero_or_pos (D (ab z)).length with h0 | h0
  · exact .inl h0
  · obtain ⟨b', off', e2, hb, _⟩ := h3 0 h0
    injection e2 with e2
    injection e2 with e3 e4
    exact .inr (by omega)
theorem Nb.high (h : BO w B (.agg #[.int .i64 s, .slice A n c]) z) (hg : g < B) : Nb A n g := by
  intro b off e
  obtain ⟨v, e', ho⟩ := h
  injection e' with e'
  have e1 := congrArg (fun (a : Array Value) => a[1]?) e'
  simp at e1
  subst e
  subst e1
  have := (World.ownsRow.lt ho b rfl).1
  exact .inr (by omega)
theorem BV.set (h : BV w B (.agg #[.int .i64 s, .slice A n c]) z) (hn : Nb A n g) (k : Nat) (u : Value) : BV (w.setCell ⟨g, k, none⟩ u) B (.agg #[.int .i64 s, .slice A n c]) z := by
  obtain ⟨A', c', e', h1, h2, h3⟩ := h
  injection e' with e'
  have e1 := congrArg (fun (a : Array Value) => a[1]?) e'
  have e0 := congrArg (fun (a : Array Value) => a[0]?) e'
  simp at e1 e0
  obtain ⟨rfl, rfl, rfl⟩ := e1
  subst e0
  refine ⟨_, _, rfl, h1, h2, fun j hj => ?_⟩
  obtain ⟨b, off, e2, hb, hc⟩ := h3 j hj
  refine ⟨b, off, e2, hb, ?_⟩
  rcases hn b off e2 with h0 | h0
  · omega
  · exact (World.cell?_setCell_far w ⟨g, k, none⟩ ⟨b, off + j, none⟩ u (fun e => h0 e.symm)).trans hc
theorem Bx.set2 (h : Bx W g' s A n c z) (hg : g' ≠ g) (hn : Nb A n g) (u u' : Value) : Bx ((W.setCell ⟨g, 0, none⟩ u).setCell ⟨g, 1, none⟩ u') g' s A n c z :=
  ⟨(h.blk.far (p := ⟨g, 0, none⟩) hg u).far (p := ⟨g, 1, none⟩) hg u', by
    have h2 := (h.bv.set hn 0 u).set hn 1 u'
    simpa using h2⟩
theorem Bx.put (h : Bx W g s A n c z) (hv : BV W W.heap.size (.agg #[.int .i64 s', .slice A' n' c']) z') (hn : Nb A' n' g) : Bx ((W.setCell ⟨g, 0, none⟩ (.int .i64 s')).setCell ⟨g, 1, none⟩ (.slice A' n' c')) g s' A' n' c' z' :=
  ⟨by simpa using h.blk.set2 (.int .i64 s') (.slice A' n' c'), by
    have h2 := (hv.set hn 0 (.int .i64 s')).set hn 1 (.slice A' n' c')
    simpa using h2⟩
theorem Bx.s0 (h : Bx W g s A n c 0) : s = 0 := by rw [h.sg]; rfl
end

end Go.Proofs.YtkjpfnbdlbnbkaaGreatDoor
