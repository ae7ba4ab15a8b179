/- Walks: the reference's below and Compare. Printed by a program (rfmore.py). Walks: the reference's operations on fractions where one is not right. Printed by a program (rfops.py). Walks: the reference's Floor and Text; New and Floor where an argument is not right. Printed by a program (rfmore.py). Walks: the reference's Read of fractions. Printed by a program (rfread.py). The module and the reference, told together for fractions. Printed by a program (rfboth.py). Walks: the law that the module and the reference tell the same of fractions. Printed by a program (jf.py). -/
import Derived.Test.YtlbjaimgoiimgaaXap
import Derived.Test.YtlbjaimgoiimgaaXah
import Derived.IntWalk
import Derived.Test.YtlbjaimgoiimgaaXak
import Derived.Test.YtlbjaimgoiimgaaXar
import Derived.Test.YtlbjaimgoiimgaaXaj
import Derived.Test.YtlbjaimgoiimgaaXaq
import Derived.Test.YtlbjaimgoiimgaaXan

namespace Go.Proofs.Ytlbjaimgoiimgaa
open Go.RowKit

theorem bbox4 {w : World} {s1 s2 s3 s4 : Int} {A1 A2 A3 A4 : Option Addr} {n1 d1 n2 d2 n3 d3 n4 d4 : Nat} {p q r s : Int} (h1 : BV w w.heap.size (.agg #[.int .i64 s1, .slice A1 n1 d1]) p) (h2 : BV w w.heap.size (.agg #[.int .i64 s2, .slice A2 n2 d2]) q) (h3 : BV w w.heap.size (.agg #[.int .i64 s3, .slice A3 n3 d3]) r) (h4 : BV w w.heap.size (.agg #[.int .i64 s4, .slice A4 n4 d4]) s) :
    ∃ W, W = (((w.alloc (.cells #[.int .i64 s1, .slice A1 n1 d1] 38)).alloc (.cells #[.int .i64 s2, .slice A2 n2 d2] 38)).alloc (.cells #[.int .i64 s3, .slice A3 n3 d3] 38)).alloc (.cells #[.int .i64 s4, .slice A4 n4 d4] 38) ∧ Below w.heap.size w W ∧
      Bx W w.heap.size s1 A1 n1 d1 p ∧ Bx W (w.heap.size + 1) s2 A2 n2 d2 q ∧ Bx W (w.heap.size + 1 + 1) s3 A3 n3 d3 r ∧ Bx W (w.heap.size + 1 + 1 + 1) s4 A4 n4 d4 s := by
  obtain ⟨W, hW, hb, k1, k2, k3, k4, _⟩ := boxes4 w #[.int .i64 s1, .slice A1 n1 d1] #[.int .i64 s2, .slice A2 n2 d2] #[.int .i64 s3, .slice A3 n3 d3] #[.int .i64 s4, .slice A4 n4 d4]
  exact ⟨W, hW, hb, ⟨k1, h1.later hb⟩, ⟨k2, h2.later hb⟩, ⟨k3, h3.later hb⟩, ⟨k4, h4.later hb⟩⟩

theorem qr_rest {p q x u : Int} (hq : 0 < q) (h : QR p q x u) : 0 ≤ u ∧ u < q := by
  obtain ⟨_, h1, h2, _⟩ := h
  rcases sgn_three u with ⟨h3, h4⟩ | ⟨h3, h4⟩ | ⟨h3, h4⟩ <;> rcases h1 with h1 | h1 <;> (try rw [h4, sgn_pos hq] at h1) <;> unfold ab at h2 <;> omega

end Go.Proofs.Ytlbjaimgoiimgaa

namespace Go.Proofs.Ytlbjaimgoiimgaa
open Go.RowKit

end Go.Proofs.Ytlbjaimgoiimgaa

namespace Go.Proofs.Ytlbjaimgoiimgaa
open Go.RowKit

set_option maxRecDepth 100000 in
set_option maxHeartbeats 8000000 in
theorem new_bad {s1 s2 : Int} {l1 l2 : List Int} {A1 A2 : Option Addr} {n1 d1 n2 d2 : Nat} (w : World) (h1 : Ar w s1 l1 A1 n1 d1) (h2 : Ar w s2 l2 A2 n2 d2) (hb : ¬ (RightP s1 l1 ∧ RightP s2 l2)) :
    Calls Try.prog 54 #[.agg #[.int .i64 s1, .slice A1 n1 d1], .agg #[.int .i64 s2, .slice A2 n2 d2]] w fun e w' => e = .returned (.tuple #[.agg #[.int .i64 0, .slice none 0 0, .int .i64 0, .slice none 0 0], .int .i64 1]) ∧ Below w.heap.size w w' := by
  have H1 := Lib.hid h1
  have H2 := Lib.hid h2
  go_enter Try.func54, Try.ntmps54
  go_wp2_with fail
  obtain ⟨W1, hW1, hbx1, k1, k2⟩ := abox2 h1 h2
  obtain ⟨W0, hW⟩ : ∃ W, W = W1.alloc (.cells #[.int .i64 0, .slice none 0 0, .int .i64 0, .slice none 0 0] 40) := ⟨_, rfl⟩
  have hs : W1.heap.size = w.heap.size + 1 + 1 := by rw [hW1]; simp
  have hT : Below w.heap.size w W0 := by rw [hW]; exact hbx1.alloc hbx1.size _
  have ha1 : Blk W0 w.heap.size 38 #[.int .i64 s1, .slice A1 n1 d1] := by rw [hW]; exact k1.blk.alloc _
  have ha2 : Blk W0 (w.heap.size + 1) 38 #[.int .i64 s2, .slice A2 n2 d2] := by rw [hW]; exact k2.blk.alloc _
  have hkR : Blk W0 (w.heap.size + 1 + 1) 40 #[.int .i64 0, .slice none 0 0, .int .i64 0, .slice none 0 0] := by rw [hW, ← hs]; exact Blk.new _ _ _
  rw [hW1] at hW
  rw [← hW]
  clear hW hW1 k1 k2 hbx1 h1 h2 hs
  have p0 : W0.cell? ⟨w.heap.size, 0, none⟩ = some (.int .i64 s1) := ha1.cell 0
  have p1 : W0.cell? ⟨w.heap.size, 1, none⟩ = some (.slice A1 n1 d1) := ha1.cell 1
  have p2 : W0.cell? ⟨w.heap.size + 1, 0, none⟩ = some (.int .i64 s2) := ha2.cell 0
  have p3 : W0.cell? ⟨w.heap.size + 1, 1, none⟩ = some (.slice A2 n2 d2) := ha2.cell 1
  go_wp2_with fail
  clear p0 p1 p2 p3
  (with_reducible refine (gcd_bad (H1.out.later hT) (H2.out.later hT) hb).mono ?_)
  rintro e u1 ⟨rfl, hb9⟩
  replace hT := hT.trans (hb9.mono hT.size)
  replace hkR := hkR.below hb9 hkR.lt
  have hT := hT.alloc hT.size (.cells #[.int .i64 0, .slice none 0 0] 38)
  have hkR := hkR.alloc (.cells #[.int .i64 0, .slice none 0 0] 38)
  have r0 := hkR.cell 0
  have r1 := hkR.cell 1
  have r2 := hkR.cell 2
  have r3 := hkR.cell 3
  have q0' := hkR.frozen 0
  have q1' := hkR.frozen 1
  have q2' := hkR.frozen 2
  have q3' := hkR.frozen 3
  simp at r0 r1 r2 r3
  have hbs := hkR.set4 (.int .i64 0) (.slice none 0 0) (.int .i64 0) (.slice none 0 0)
  have x0 := hbs.cell 0
  have x1 := hbs.cell 1
  have x2 := hbs.cell 2
  have x3 := hbs.cell 3
  simp at x0 x1 x2 x3
  have gR : w.heap.size ≤ w.heap.size + 1 + 1 := by omega
  go_wp2_with fail
  refine bodyPost_ret (v := .tuple #[.agg #[.int .i64 0, .slice none 0 0, .int .i64 0, .slice none 0 0], .int .i64 1]) (by simp [results, Try.results54, go_sem, x0, x1, x2, x3]) rfl ?_
  exact ⟨rfl, below_st4 hT gR _ _ _ _⟩

end Go.Proofs.Ytlbjaimgoiimgaa

namespace Go.Proofs.Ytlbjaimgoiimgaa
open Go.RowKit

theorem stroke_at {s a b : List UInt8} {i : Nat} (hs : s = a ++ 47 :: b) (ha : (47 : UInt8) ∉ a) (hi : s[i]? = some 47) (hn : (47 : UInt8) ∉ s.take i) : i = a.length := by
  subst hs
  rcases Nat.lt_trichotomy i a.length with h | h | h
  · rw [List.getElem?_append_left h] at hi
    exact absurd (List.mem_of_getElem? hi) ha
  · exact h
  · exact absurd (by rw [List.take_append, List.mem_append]; right; rw [show i - a.length = (i - a.length - 1) + 1 by omega, List.take_succ_cons]; exact List.mem_cons_self ..) hn

theorem ext_take (s : ByteArray) (n : Nat) : s.extract 0 n = byt ((bts s).take n) := by
  apply ByteArray.ext
  apply Array.toList_inj.1
  rw [ByteArray.data_extract, Array.toList_extract]
  unfold byt bts
  simp
theorem ext_drop (s : ByteArray) (n : Nat) : s.extract n s.size = byt ((bts s).drop n) := by
  apply ByteArray.ext
  apply Array.toList_inj.1
  rw [ByteArray.data_extract, Array.toList_extract]
  unfold byt bts
  simp only [List.extract_eq_take_drop]
  exact List.take_of_length_le (by rw [List.length_drop, Array.length_toList]; exact Nat.le_refl _)

end Go.Proofs.Ytlbjaimgoiimgaa

namespace Go.Proofs.Ytlbjaimgoiimgaa
open Go.RowKit

/-- A fraction and an error. -/
def FRes (P Q E : Int) (w : World) (e : Ending) (w' : World) : Prop := ∃ r, e = .returned (.tuple #[r, .int .i64 E]) ∧ FO w' w.heap.size r P Q ∧ Below w.heap.size w w'
theorem fres_zero {E : Int} {w w' : World} {e : Ending} (h : e = .returned (.tuple #[.agg #[.int .i64 0, .slice none 0 0, .int .i64 0, .slice none 0 0], .int .i64 E]) ∧ Below w.heap.size w w') : FRes 0 0 E w e w' := ⟨_, h.1, FO.zero _ _, h.2⟩

section
variable {s1 s2 s3 s4 : Int} {l1 l2 l3 l4 : List Int} {A1 A2 A3 A4 : Option Addr} {n1 d1 n2 d2 n3 d3 n4 d4 : Nat} {w : World}
theorem RF.two (h : RF s1 l1 s2 l2) (h1 : Ar w s1 l1 A1 n1 d1) (h2 : Ar w s2 l2 A2 n2 d2) : ∃ x : Rat, Rb x 60 60 ∧ ∀ w1, Below w.heap.size w w1 → FV w1 w1.heap.size s1 A1 n1 d1 s2 A2 n2 d2 x.num x.den := by
  obtain ⟨x, hv, _, a, b, _⟩ := h.fv h1 h2
  exact ⟨x, ⟨a, b⟩, fun w1 hb => hv.later hb⟩
theorem gcd_zero_one {q : Int} (h : FR 0 q) : q = 1 := by
  have h1 := FR.one h
  have h0 := FR.pos h
  rw [Int.gcd_zero_left] at h1
  omega

theorem bothf_new (h1 : Ar w s1 l1 A1 n1 d1) (h3 : Ar w s3 l3 A3 n3 d3) :
    ∃ P Q E, Both 54 41 #[.agg #[.int .i64 s1, .slice A1 n1 d1], .agg #[.int .i64 s3, .slice A3 n3 d3]] w (FRes P Q E) := by
  by_cases hr : RightP s1 l1 ∧ RightP s3 l3
  · obtain ⟨x, hx6, hx⟩ := h1.zz hr.1
    obtain ⟨y, hy6, hy⟩ := h3.zz hr.2
    exact ⟨_, _, _, fun w1 hb => ⟨new_any _ _ _ _ _ _ _ _ x y w1 (hx w1 hb) (hy w1 hb) hx6 hy6, rnew_any _ _ _ _ _ _ _ _ x y w1 (hx w1 hb) (hy w1 hb) hx6 hy6⟩⟩
  · exact ⟨_, _, _, fun w1 hb => ⟨(new_bad w1 (h1.later hb) (h3.later hb) hr).mono fun _ _ h => fres_zero h, (rnew_bad w1 (h1.later hb) (h3.later hb) hr).mono fun _ _ h => fres_zero h⟩⟩
theorem bothf_of {p q : Int} (hp : isI p) (hq : isI q) : ∃ P Q E, Both 45 26 #[.int .i64 p, .int .i64 q] w (FRes P Q E) :=
  ⟨_, _, _, fun w1 _ => ⟨fof_any p q w1 hp hq, rfof_any p q w1 hp hq⟩⟩
end

end Go.Proofs.Ytlbjaimgoiimgaa

namespace Go.Proofs.Ytlbjaimgoiimgaa
open Go.RowKit

theorem fo_mono {w : World} {B B' : Nat} {r : Value} {p q : Int} (h : FO w B r p q) (hb : B' ≤ B) : FO w B' r p q := by
  obtain ⟨s1, A1, n1, c1, s2, A2, n2, c2, rfl, g1, g2⟩ := h
  exact ⟨s1, A1, n1, c1, s2, A2, n2, c2, rfl, g1.mono hb, g2.mono hb⟩
/-- Two owned fractions of the same parts are the same to the reference's Same. -/
theorem fsame_own {w : World} {B B' : Nat} {r1 r2 : Value} {p q : Int} (h1 : FO w B r1 p q) (h2 : FO w B' r2 p q) :
    Calls Try.prog 22 #[r1, r2] w fun e w' => e = .returned (.bool true) ∧ Below w.heap.size w w' := by
  obtain ⟨s1, A1, n1, c1, s2, A2, n2, c2, rfl⟩ := h1.form
  obtain ⟨s3, A3, n3, c3, s4, A4, n4, c4, rfl⟩ := h2.form
  exact fsame_any _ _ _ _ _ _ _ _ _ _ _ _ _ _ _ _ _ _ _ _ w h1.fv h2.fv true (decide_eq_true ⟨rfl, rfl⟩)
theorem sbig_own {w : World} {B B' : Nat} {r1 r2 : Value} {z : Int} (h1 : BO w B r1 z) (h2 : BO w B' r2 z) :
    Calls Try.prog 39 #[r1, r2] w fun e w' => e = .returned (.bool true) ∧ Below w.heap.size w w' := by
  have h := sameBig_any z z r1 r2 w h1.bv h2.bv
  rwa [decide_eq_true rfl] at h
/-- A result stored into a box that was there. -/
theorem putf {W w0 : World} {g : Nat} {a0 a1 a2 a3 : Value} {s s' : Int} {A A' : Option Addr} {n c n' c' : Nat}
    (hg : Blk W g 40 #[a0, a1, a2, a3]) (hT : Below w0.heap.size w0 W) (h0 : w0.heap.size ≤ g) :
    ∃ V, V = (((W.setCell ⟨g, 0, none⟩ (.int .i64 s)).setCell ⟨g, 1, none⟩ (.slice A n c)).setCell ⟨g, 2, none⟩ (.int .i64 s')).setCell ⟨g, 3, none⟩ (.slice A' n' c') ∧
      Below w0.heap.size w0 V ∧ V.heap.size = W.heap.size ∧ Blk V g 40 #[.int .i64 s, .slice A n c, .int .i64 s', .slice A' n' c'] ∧
      (∀ h t cs, Blk W h t cs → h ≠ g → Blk V h t cs) ∧ (∀ v p q B', FO W B' v p q → g < B' → FO V B' v p q) := by
  refine ⟨_, rfl, below_st4 hT h0 _ _ _ _, by simp, hg.set4 _ _ _ _, fun h t cs hb h1 => hb.far4 h1 _ _ _ _, ?_⟩
  intro v p q B' ho h1
  obtain ⟨s1, A1, n1, c1, s2, A2, n2, c2, rfl, g1, g2⟩ := ho
  exact ⟨s1, A1, n1, c1, s2, A2, n2, c2, rfl, g1.far4 h1 _ _ _ _, g2.far4 h1 _ _ _ _⟩

end Go.Proofs.Ytlbjaimgoiimgaa
