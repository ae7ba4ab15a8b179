/- What the law on texts needs. -/
import Derived.Test.YtofndidngjglmaaDoorZp
import Derived.Deep.DeepCutAuto
import Derived.Laws.Concat
namespace Go.Proofs.YtofndidngjglmaaDoor
open Go.RowKit

theorem text_back {S : ByteArray} {z : Int} (h : bts S = Lib.itoa z) : byt (Lib.itoa z) = S := by
  rw [← h]
  unfold byt bts
  simp
theorem text_len {z : Int} (h : ab z < pw 60) : (byt (Lib.itoa z)).size ≤ 99998 := by
  rw [byt_size, itoa_ab]
  have := dd_len_pw 60 (by decide) (ab z) (ab_nonneg z) h
  split <;> simp <;> omega
theorem itoa_zero : byt (Lib.itoa 0) = ⟨#[48]⟩ := by
  have h : Lib.itoa 0 = [48] := by
    unfold Lib.itoa
    rw [if_neg (by omega)]
    exact dd_lt (n := 0) (by decide)
  rw [h]
  rfl
theorem fitz_lt (z : Int) : ab (fitz z) < pw 60 := by
  unfold fitz
  split
  · assumption
  · rw [ab_zero]; exact pw_pos 60
theorem seven_cases (x : Int) :
    (fite (x * 10) = 0 ∧ fite (fitz (x * 10) + 7 * sgn x) = 0 ∧ fite (10 * x + 7 * sgn x) = 0 ∧ fitz (10 * x + 7 * sgn x) = fitz (fitz (x * 10) + 7 * sgn x)) ∨
    (fite (x * 10) = 0 ∧ fite (fitz (x * 10) + 7 * sgn x) = 6 ∧ fite (10 * x + 7 * sgn x) = 6) ∨ (fite (x * 10) = 6 ∧ fite (10 * x + 7 * sgn x) = 6) := by
  rw [show x * 10 = 10 * x by omega]
  by_cases h1 : ab (10 * x) < pw 60
  · rw [(fits h1).1, (fits h1).2]
    by_cases h2 : ab (10 * x + 7 * sgn x) < pw 60
    · rw [(fits h2).1]; exact .inl ⟨rfl, rfl, rfl, rfl⟩
    · rw [show fite (10 * x + 7 * sgn x) = 6 from if_neg h2]; exact .inr (.inl ⟨rfl, rfl, rfl⟩)
  · have h2 := seven_big h1
    exact .inr (.inr ⟨if_neg h1, if_neg h2⟩)
theorem Ar.bad {w : World} {s : Int} {l : List Int} {A : Option Addr} {n c : Nat} (h : Ar w s l A n c) (hr : ¬ RightP s l) :
    Calls Tryd.prog 23 #[.agg #[.int .i64 s, .slice A n c]] w fun e w' => e = .returned (.string ⟨#[]⟩) ∧ Below w.heap.size w w' := by
  obtain ⟨rfl, hI, hc, hm⟩ := h
  exact text_bad s l A c w hI (by omega) hr
theorem Aq.bx60 {W : World} {g : Nat} {s : Int} {l : List Int} {A : Option Addr} {n c : Nat} (h : Aq W g s l A n c) (hr : RightP s l) : ∃ z, Bx W g s A n c z ∧ s = sgn z ∧ ab z < pw 60 := by
  obtain ⟨z, h1, h2, h3, _⟩ := h.ar.z hr
  exact ⟨z, ⟨h.blk, h1⟩, h2, h3⟩

/-- A box that was laid zero, behind a store of a result. -/
theorem box_st {b : World} {g B : Nat} {u0 u1 : Value} {s : Int} {A : Option Addr} {n c : Nat} {z : Int} (hk : Blk b g 24 #[u0, u1]) (hr : BO b B (.agg #[.int .i64 s, .slice A n c]) z) (hg : g < B) :
    Bx ((b.setCell ⟨g, 0, none⟩ (.int .i64 s)).setCell ⟨g, 1, none⟩ (.slice A n c)) g s A n c z :=
  ⟨by simpa using hk.set2 (.int .i64 s) (.slice A n c), (hr.far2 hg _ _).bv⟩
theorem box_new {b : World} {B : Nat} {s : Int} {A : Option Addr} {n c : Nat} {z : Int} (hr : BO b B (.agg #[.int .i64 s, .slice A n c]) z) :
    Bx (b.alloc (.cells #[.int .i64 s, .slice A n c] 24)) b.heap.size s A n c z := by
  obtain ⟨W, rfl, _, h⟩ := box1 hr
  exact h
theorem below_st {B g : Nat} {w b : World} (h : Below B w b) (hg : B ≤ g) (u0 u1 : Value) : Below B w ((b.setCell ⟨g, 0, none⟩ u0).setCell ⟨g, 1, none⟩ u1) :=
  (h.setCell (p := ⟨g, 0, none⟩) hg u0).setCell (p := ⟨g, 1, none⟩) hg u1
theorem below_new {w b : World} (h : Below w.heap.size w b) (o : Obj) : Below w.heap.size w (b.alloc o) := h.alloc h.size o
theorem BV.new {b : World} {v : Value} {z : Int} (h : BV b b.heap.size v z) (o : Obj) : BV (b.alloc o) (b.alloc o).heap.size v z := h.later ((Below.refl _ _).alloc (Nat.le_refl _) o)
theorem blk_run {b b' : World} {a0 a1 : Value} (h : Below (b.alloc (.cells #[a0, a1] 24)).heap.size (b.alloc (.cells #[a0, a1] 24)) b') : Blk b' b.heap.size 24 #[a0, a1] := (Blk.new b 24 _).below h (by simp)

end Go.Proofs.YtofndidngjglmaaDoor
