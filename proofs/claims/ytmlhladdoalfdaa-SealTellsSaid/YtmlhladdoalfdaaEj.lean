/- Walks: the law's small. -/
import Derived.Test.YtmlhladdoalfdaaEi
namespace Go.Proofs.Ytmlhladdoalfdaa
open Go.RowKit

theorem sign_at {S : Nat → Prop} {r : Nat} {es es' : List En} {w : World} (h : Ring w S r es) (k : Int) (t : ByteArray) (m : Int) (h1 : addE es (k, t) = es') (h2 : sg es (k, t) = ((k, t), m)) (hk : -9223372036854775808 ≤ k ∧ k ≤ 9223372036854775807) (ht : t.size ≤ 1000) (hl : es.length ≤ 1000) :
    Calls Try.prog 11 #[.pointer (some ⟨r, 0, none⟩), .int .i64 k, .string t] w fun e w' => ∃ S', e = .returned (.agg #[.int .i64 k, .string t, .int .i64 m]) ∧ Ring w' S' r es' ∧ Fr S w w' ∧ ∀ b, S' b → S b ∨ w.heap.size ≤ b :=
  (sign_any h (k, t) ⟨hk, by unfold maxLen; simp only; omega⟩ ht hl).mono fun e w' ⟨S', e1, e2, e3, e4⟩ => ⟨S', by rw [e1, h2]; rfl, by rw [← h1]; exact e2, e3, e4⟩
theorem sign_no {S : Nat → Prop} {r : Nat} {es : List En} {w : World} (h : Ring w S r es) (k : Int) (t : ByteArray) (h2 : okKey k = false) (hk : -9223372036854775808 ≤ k ∧ k ≤ 9223372036854775807) (ht : t.size ≤ 1000) (hl : es.length ≤ 1000) :
    Calls Try.prog 11 #[.pointer (some ⟨r, 0, none⟩), .int .i64 k, .string t] w fun e w' => ∃ S', e = .returned (.agg #[.int .i64 0, .string ⟨#[]⟩, .int .i64 0]) ∧ Ring w' S' r es ∧ Fr S w w' ∧ ∀ b, S' b → S b ∨ w.heap.size ≤ b :=
  (sign_any h (k, t) ⟨hk, by unfold maxLen; simp only; omega⟩ ht hl).mono fun e w' ⟨S', e1, e2, e3, e4⟩ => ⟨S', by rw [e1, show sg es (k, t) = (e0, 0) by unfold sg; rw [if_neg (by simp [h2])]]; rfl, by rw [show addE es (k, t) = es by unfold addE; rw [if_neg (by simp [h2])]] at e2; exact e2, e3, e4⟩

abbrev tA : ByteArray := ⟨#[97]⟩
abbrev tB : ByteArray := ⟨#[98]⟩
theorem s1 : addE [] (3, tA) = [(3, tA)] ∧ sg [] (3, tA) = ((3, tA), 0) := by decide
theorem s2 : addE [(3, tA)] (4, tA) = [(3, tA), (4, tA)] ∧ sg [(3, tA)] (4, tA) = ((4, tA), 1) := by decide
theorem s3 : addE [(3, tA), (4, tA)] (3, tA) = [(3, tA), (4, tA)] ∧ sg [(3, tA), (4, tA)] (3, tA) = ((3, tA), 0) := by decide
theorem v1 : holds [(3, tA), (4, tA)] (3, tA) 0 = true := by decide
theorem v2 : holds [(3, tA), (4, tA)] (3, tA) 1 = false := by decide
theorem v3 : holds [(3, tA), (4, tA)] (3, tB) 0 = false := by decide

/-- Steps of a law with one ring. -/
theorem step_low {S S' : Nat → Prop} {B : Nat} {w : World} (low : ∀ b, S b → B ≤ b) (hs : ∀ b, S' b → S b ∨ w.heap.size ≤ b) (hB : B ≤ w.heap.size) : ∀ b, S' b → B ≤ b := fun b hb => by
  rcases hs b hb with h | h
  · exact low b h
  · exact Nat.le_trans hB h
theorem step_not {S S' : Nat → Prop} {w : World} {g : Nat} (hn : ¬ S g) (hg : g < w.heap.size) (hs : ∀ b, S' b → S b ∨ w.heap.size ≤ b) : ¬ S' g := fun h => by
  rcases hs g h with h | h
  · exact hn h
  · omega
theorem Ring.lt {S : Nat → Prop} {w : World} {r : Nat} {es : List En} (h : Ring w S r es) : ∀ b, S b → b < w.heap.size := by
  obtain ⟨_, _, _, _, _, _, _, _, h⟩ := h
  exact h
theorem Ring.new_not {S : Nat → Prop} {w : World} {r : Nat} {es : List En} (h : Ring w S r es) : ¬ S w.heap.size := fun h' => by
  have := h.lt _ h'
  omega
/-- A box with a signature. -/
def Bx (w : World) (S : Nat → Prop) (g : Nat) (k : Int) (t : ByteArray) (m : Int) : Prop := Blk w g 24 #[.int .i64 k, .string t, .int .i64 m] ∧ ¬ S g
theorem Bx.new {S : Nat → Prop} {w : World} {r : Nat} {es : List En} (h : Ring w S r es) (k : Int) (t : ByteArray) (m : Int) : Bx (w.alloc (.cells #[.int .i64 k, .string t, .int .i64 m] 24)) S w.heap.size k t m := ⟨Blk.new w _ _, h.new_not⟩
theorem Bx.below {S : Nat → Prop} {w w' : World} {g : Nat} {k m : Int} {t : ByteArray} (h : Bx w S g k t m) (hb : Below w.heap.size w w') : Bx w' S g k t m := ⟨h.1.below hb h.1.lt, h.2⟩
theorem Bx.step {S S' : Nat → Prop} {w w' : World} {g : Nat} {k m : Int} {t : ByteArray} (h : Bx w S g k t m) (hF : Fr S w w') (hs : ∀ b, S' b → S b ∨ w.heap.size ≤ b) : Bx w' S' g k t m := ⟨h.1.fr hF h.2, step_not h.2 h.1.lt hs⟩
theorem Bx.cells {S : Nat → Prop} {w : World} {g : Nat} {k m : Int} {t : ByteArray} (h : Bx w S g k t m) : w.cell? ⟨g, 0, none⟩ = some (.int .i64 k) ∧ w.cell? ⟨g, 1, none⟩ = some (.string t) ∧ w.cell? ⟨g, 2, none⟩ = some (.int .i64 m) := ⟨h.1.cell 0, h.1.cell 1, h.1.cell 2⟩
theorem Ring.alloc {S : Nat → Prop} {w : World} {r : Nat} {es : List En} (h : Ring w S r es) (o : Obj) : Ring (w.alloc o) S r es := h.below ((Below.refl _ _).alloc (Nat.le_refl _) o)

set_option maxRecDepth 100000 in
set_option maxHeartbeats 8000000 in
theorem small_any (w : World) : Calls Try.prog 7 #[] w fun e w' => e = .returned (.bool true) ∧ Below w.heap.size w w' := by
  go_enter Try.func7, Try.ntmps7
  go_wp2_with fail
  refine (new_any _).mono ?_
  rintro e w1 ⟨r, S1, rfl, hR1, low1, hB1⟩
  go_upto_region 4 with fail
  go_wp2_with fail
  refine (sign_at hR1 3 tA 0 s1.1 s1.2 (by decide) (by decide) (by decide)).mono ?_
  rintro e x2 ⟨S2, rfl, hR2', hF2, hs2⟩
  have low2 := step_low low1 hs2 hB1.size
  have hB2' := hB1.trans (hF2.below low1 hB1.size)
  have bx0 := Bx.new hR2' 3 tA 0
  have hR2 := hR2'.alloc (.cells #[.int .i64 3, .string tA, .int .i64 0] 24)
  have hB2 := hB2'.alloc hB2'.size (.cells #[.int .i64 3, .string tA, .int .i64 0] 24)
  go_upto_region 5 with fail
  obtain ⟨w2, hw⟩ : ∃ W, x2.alloc (.cells #[.int .i64 3, .string tA, .int .i64 0] 24) = W := ⟨_, rfl⟩
  obtain ⟨g0, hg⟩ : ∃ g, x2.heap.size = g := ⟨_, rfl⟩
  rw [hw, hg] at bx0
  rw [hw] at hR2 hB2
  rw [hw, hg]
  clear hw hg hR2' hB2' hF2 hs2 low1 hR1 hB1
  go_wp2_with fail
  refine (sign_at hR2 4 tA 1 s2.1 s2.2 (by decide) (by decide) (by decide)).mono ?_
  rintro e x3 ⟨S3, rfl, hR3', hF3, hs3⟩
  have low3 := step_low low2 hs3 hB2.size
  have hB3' := hB2.trans (hF3.below low2 hB2.size)
  have bx0' := bx0.step hF3 hs3
  clear bx0
  have bx1 := Bx.new hR3' 4 tA 1
  have hR3 := hR3'.alloc (.cells #[.int .i64 4, .string tA, .int .i64 1] 24)
  have hB3 := hB3'.alloc hB3'.size (.cells #[.int .i64 4, .string tA, .int .i64 1] 24)
  have bx0 := bx0'.below ((Below.refl _ _).alloc (Nat.le_refl _) (.cells #[.int .i64 4, .string tA, .int .i64 1] 24))
  clear bx0'
  go_upto_region 6 with fail
  obtain ⟨w3, hw⟩ : ∃ W, x3.alloc (.cells #[.int .i64 4, .string tA, .int .i64 1] 24) = W := ⟨_, rfl⟩
  obtain ⟨g1, hg⟩ : ∃ g, x3.heap.size = g := ⟨_, rfl⟩
  rw [hw, hg] at bx1
  rw [hw] at hR3 hB3
  rw [hw] at bx0
  rw [hw, hg]
  clear hw hg hR3' hB3' hF3 hs3 low2 hR2 hB2
  go_wp2_with fail
  refine (sign_at hR3 3 tA 0 s3.1 s3.2 (by decide) (by decide) (by decide)).mono ?_
  rintro e x4 ⟨S4, rfl, hR4', hF4, hs4⟩
  have low4 := step_low low3 hs4 hB3.size
  have hB4' := hB3.trans (hF4.below low3 hB3.size)
  have bx0' := bx0.step hF4 hs4
  clear bx0
  have bx1' := bx1.step hF4 hs4
  clear bx1
  have bx2 := Bx.new hR4' 3 tA 0
  have hR4 := hR4'.alloc (.cells #[.int .i64 3, .string tA, .int .i64 0] 24)
  have hB4 := hB4'.alloc hB4'.size (.cells #[.int .i64 3, .string tA, .int .i64 0] 24)
  have bx0 := bx0'.below ((Below.refl _ _).alloc (Nat.le_refl _) (.cells #[.int .i64 3, .string tA, .int .i64 0] 24))
  clear bx0'
  have bx1 := bx1'.below ((Below.refl _ _).alloc (Nat.le_refl _) (.cells #[.int .i64 3, .string tA, .int .i64 0] 24))
  clear bx1'
  go_upto_region 7 with fail
  obtain ⟨w4, hw⟩ : ∃ W, x4.alloc (.cells #[.int .i64 3, .string tA, .int .i64 0] 24) = W := ⟨_, rfl⟩
  obtain ⟨g2, hg⟩ : ∃ g, x4.heap.size = g := ⟨_, rfl⟩
  rw [hw, hg] at bx2
  rw [hw] at hR4 hB4
  rw [hw] at bx0
  rw [hw] at bx1
  rw [hw, hg]
  clear hw hg hR4' hB4' hF4 hs4 low3 hR3 hB3
  go_wp2_with fail
  refine (sign_no hR4 5000 tA (by decide) (by decide) (by decide) (by decide)).mono ?_
  rintro e x5 ⟨S5, rfl, hR5', hF5, hs5⟩
  have low5 := step_low low4 hs5 hB4.size
  have hB5' := hB4.trans (hF5.below low4 hB4.size)
  have bx0' := bx0.step hF5 hs5
  clear bx0
  have bx1' := bx1.step hF5 hs5
  clear bx1
  have bx2' := bx2.step hF5 hs5
  clear bx2
  have bx3 := Bx.new hR5' 0 ⟨#[]⟩ 0
  have hR5 := hR5'.alloc (.cells #[.int .i64 0, .string ⟨#[]⟩, .int .i64 0] 24)
  have hB5 := hB5'.alloc hB5'.size (.cells #[.int .i64 0, .string ⟨#[]⟩, .int .i64 0] 24)
  have bx0 := bx0'.below ((Below.refl _ _).alloc (Nat.le_refl _) (.cells #[.int .i64 0, .string ⟨#[]⟩, .int .i64 0] 24))
  clear bx0'
  have bx1 := bx1'.below ((Below.refl _ _).alloc (Nat.le_refl _) (.cells #[.int .i64 0, .string ⟨#[]⟩, .int .i64 0] 24))
  clear bx1'
  have bx2 := bx2'.below ((Below.refl _ _).alloc (Nat.le_refl _) (.cells #[.int .i64 0, .string ⟨#[]⟩, .int .i64 0] 24))
  clear bx2'
  go_upto_region 8 with fail
  obtain ⟨w5, hw⟩ : ∃ W, x5.alloc (.cells #[.int .i64 0, .string ⟨#[]⟩, .int .i64 0] 24) = W := ⟨_, rfl⟩
  obtain ⟨g3, hg⟩ : ∃ g, x5.heap.size = g := ⟨_, rfl⟩
  rw [hw, hg] at bx3
  rw [hw] at hR5 hB5
  rw [hw] at bx0
  rw [hw] at bx1
  rw [hw] at bx2
  rw [hw, hg]
  clear hw hg hR5' hB5' hF5 hs5 low4 hR4 hB4
  obtain ⟨a0, a1, a2⟩ := bx0.cells
  obtain ⟨b0, b1, b2⟩ := bx1.cells
  obtain ⟨c0, c1, c2⟩ := bx2.cells
  obtain ⟨d0, d1, d2⟩ := bx3.cells
  go_wp2_with fail
  have hv1 := valid_any hR5 (3, tA) 0 ⟨by decide, by decide⟩
  rw [v1] at hv1
  refine hv1.mono ?_
  rintro e w6 ⟨rfl, hb6⟩
  have hR6 := hR5.below hb6
  have hB6 := hB5.trans (hb6.mono hB5.size)
  have hv2 := valid_any hR6 (3, tA) 1 ⟨by decide, by decide⟩
  rw [v2] at hv2
  go_wp2_with fail
  refine hv2.mono ?_
  rintro e w7 ⟨rfl, hb7⟩
  have hR7 := hR6.below hb7
  have hB7 := hB6.trans (hb7.mono hB6.size)
  have hv3 := valid_any hR7 (3, tB) 0 ⟨by decide, by decide⟩
  rw [v3] at hv3
  go_wp2_with fail
  refine hv3.mono ?_
  rintro e w8 ⟨rfl, hb8⟩
  have hR8 := hR7.below hb8
  have hB8 := hB7.trans (hb8.mono hB7.size)
  have ha := all_any hR8 (by decide)
  go_wp2_with fail
  refine ha.mono ?_
  rintro e w9 ⟨v, rfl, ho, hb9⟩
  have hB9 := hB8.trans (hb9.mono hB8.size)
  obtain ⟨A, c, rfl, -, -, -⟩ := ho.at_
  simp only [List.length_cons, List.length_nil]
  go_wp2_with fail
  go_ret
  exact ⟨rfl, hB9⟩

end Go.Proofs.Ytmlhladdoalfdaa
