/- Walk of the law WireWrites. -/
import Derived.Test.YtamjfnpgjcdepaaFw
import Derived.Lib.QuietBelow
namespace Go.Proofs.Ytamjfnpgjcdepaa
open Go.RowKit Go.Sort

theorem IntsAt.mono {B B' : Nat} {w w' : World} {a : Option Addr} {zs : List Int} (h : IntsAt B w a zs) (hb : Below B w w') (hB : B ≤ B') : IntsAt B' w' a zs := by
  intro k hk
  obtain ⟨b, off, h1, h2, h3⟩ := h k hk
  exact ⟨b, off, h1, by omega, (hb.cell (p := ⟨b, _, none⟩) h2).trans h3⟩
theorem StrsAt.mono {B B' : Nat} {w w' : World} {a : Option Addr} {zs : List ByteArray} (h : StrsAt B w a zs) (hb : Below B w w') (hB : B ≤ B') : StrsAt B' w' a zs := by
  intro k hk
  obtain ⟨b, off, h1, h2, h3⟩ := h k hk
  exact ⟨b, off, h1, by omega, (hb.cell (p := ⟨b, _, none⟩) h2).trans h3⟩
theorem Vd.Ok.mono {B B' : Nat} {w w' : World} {d : Vd} (h : d.Ok B w) (hb : Below B w w') (hB : B ≤ B') : d.Ok B' w' :=
  ⟨h.k, h.n, h.s, h.l, h.t, h.ts, h.ls, h.atL.mono hb hB, h.atT.mono hb hB⟩

def encNum (n : Int) : List UInt8 := if n < 0 then [] else encInt n
theorem wNum_any (n : Int) (w : World) (hn : isI64 n) : Calls Try.prog 11 #[.int .i64 n] w fun e w' => e = .returned (.string (ba (encNum n))) ∧ Below w.heap.size w w' := by
  unfold encNum
  by_cases h : n < 0
  · rw [if_pos h]; exact wNum_neg n w h
  · rw [if_neg h]; exact wNum_pos n w hn (by omega)
theorem rNum_any (n : Int) (w : World) (hn : isI64 n) : Calls Try.prog 12 #[.int .i64 n] w fun e w' => e = .returned (.string (ba (encNum n))) ∧ Below w.heap.size w w' := by
  unfold encNum
  by_cases h : n < 0
  · rw [if_pos h]; exact rNum_neg n w h
  · rw [if_neg h]; exact rNum_pos n w hn (by omega)

theorem Vd.Few.s' {d : Vd} (h : d.Few) : d.S.size ≤ 1000000 := by have := h.s; omega

/-- The boxed value's cells, in a new block. -/
theorem Vd.at_alloc (d : Vd) (w : World) (t : TypeId) : d.At (w.alloc (.cells d.parts.toArray t)) w.heap.size 0 :=
  ⟨by simp [Vd.parts], by simp [Vd.parts], by simp [Vd.parts], by simp [Vd.parts], by simp [Vd.parts]⟩

set_option maxHeartbeats 4000000 in
set_option maxRecDepth 100000 in
theorem wireWrites_any (d : Vd) (w : World) (hok : d.Ok w.heap.size w) :
    Calls Try.prog 3 #[d.val] w fun e w' => e = .returned (.bool true) ∧ Below w.heap.size w w' := by
  unfold Vd.val
  have HOK := Lib.hid hok
  clear hok
  go_enter Try.func3, Try.ntmps3
  go_wp2_with fail
  refine (small_any _).mono ?_
  rintro e w1 ⟨rfl, hb1⟩
  have hs1 := hb1.size
  have hbw : Below w.heap.size w w1 := ((Below.refl _ w).alloc (Nat.le_refl _) (.cells d.parts.toArray 25)).trans (hb1.mono (by simp))
  have hs2 := hbw.size
  have hok1 := HOK.out.mono hbw hs2
  obtain ⟨c0, c1, c2, c3, c4⟩ := (d.at_alloc w 25).below hb1 (by simp)
  have hlt1 : w.heap.size < w1.heap.size := by simp at hs1; omega
  clear hb1 hs1
  have HOK1 := Lib.hid hok1; clear hok1
  go_wp2_with fail
  have hbA := (Below.refl w1.heap.size w1).alloc (Nat.le_refl _) (.cells d.parts.toArray 25)
  refine (few_any (w1.alloc (.cells d.parts.toArray 25)).heap.size (some ⟨w1.heap.size, 0, none⟩) [d] 1 (w1.alloc (.cells d.parts.toArray 25)) (Nat.le_refl _) (by simp)
    (by intro x hx; rw [List.mem_singleton] at hx; subst hx; exact HOK1.out.mono hbA (by simp))
    (by intro k hk; have : k = 0 := by simp at hk; omega
        subst this; exact ⟨w1.heap.size, 0, rfl, by simp, d.at_alloc w1 25⟩)).mono ?_
  rintro e w2 ⟨⟨fb, rfl, hfew⟩, hb2⟩
  have hbw2 : Below w1.heap.size w1 w2 := hbA.trans (hb2.mono (by simp))
  clear hb2 hbA
  have hs3 := hbw2.size
  cases fb with
  | false =>
    go_wp2_with fail
    go_ret
    exact ⟨rfl, hbw.trans (hbw2.mono hs2)⟩
  | true =>
    have hf := (hfew rfl).2 d (by simp)
    have hok2 := HOK1.out.mono hbw2 hs3
    clear hfew
    rw [← hbw2.cell (p := ⟨w.heap.size, _, none⟩) hlt1] at c0 c1 c2 c3 c4
    simp only [Nat.zero_add] at c1 c2 c3 c4
    have hbT := hbw.trans (hbw2.mono hs2)
    clear hbw hbw2 HOK1 HOK
    have k1 := cell_regrown c1
    have k2 := cell_regrown c2
    have q1 : ∀ x os, Calls Try.prog 11 #[.int .i64 d.N] (grow (redrawn w2 x) os) fun e w'' => e = .returned (.string (ba (encNum d.N))) ∧ ∃ p : Regrown, w'' = grow (redrawn w2 p.d) p.os := fun x os => Calls.regrown_of (wNum_any _ _ hok2.n)
    have q2 : ∀ x os, Calls Try.prog 12 #[.int .i64 d.N] (grow (redrawn w2 x) os) fun e w'' => e = .returned (.string (ba (encNum d.N))) ∧ ∃ p : Regrown, w'' = grow (redrawn w2 p.d) p.os := fun x os => Calls.regrown_of (rNum_any _ _ hok2.n)
    have q3 : ∀ x os, Calls Try.prog 13 #[.int .i64 d.N] (grow (redrawn w2 x) os) fun e w'' => e = .returned (.string (ba (encInt d.N))) ∧ ∃ p : Regrown, w'' = grow (redrawn w2 p.d) p.os := fun x os => Calls.regrown_of (wInt_any _ _ hok2.n)
    have q4 : ∀ x os, Calls Try.prog 14 #[.int .i64 d.N] (grow (redrawn w2 x) os) fun e w'' => e = .returned (.string (ba (encInt d.N))) ∧ ∃ p : Regrown, w'' = grow (redrawn w2 p.d) p.os := fun x os => Calls.regrown_of (rInt_any _ _ hok2.n)
    have q5 : ∀ x os, Calls Try.prog 15 #[.string d.S] (grow (redrawn w2 x) os) fun e w'' => e = .returned (.string (ba (encStr d.S))) ∧ ∃ p : Regrown, w'' = grow (redrawn w2 p.d) p.os := fun x os => Calls.regrown_of (wText_any _ _ (Nat.le_trans hf.s' (by omega)))
    have q6 : ∀ x os, Calls Try.prog 16 #[.string d.S] (grow (redrawn w2 x) os) fun e w'' => e = .returned (.string (ba (encStr d.S))) ∧ ∃ p : Regrown, w'' = grow (redrawn w2 p.d) p.os := fun x os => Calls.regrown_of (rText_any _ _ hf.s')
    clear c0 c1
    have HOK2 := Lib.hid hok2; clear hok2
    have HF := Lib.hid hf; clear hf
    have C3 := Lib.hid c3; clear c3
    have C4 := Lib.hid c4; clear c4 c2
    have Q1 := Lib.hid q1; clear q1
    have Q2 := Lib.hid q2; clear q2
    have Q3 := Lib.hid q3; clear q3
    have Q4 := Lib.hid q4; clear q4
    have Q5 := Lib.hid q5; clear q5
    have Q6 := Lib.hid q6; clear q6
    go_wp2_with fail
    refine wp_region_quiet_below (by kernel_rfl) (by kernel_rfl) ?_
    repeat (quiet_step (first | (go_at_call 11; exact Q1.out _ _) | (go_at_call 12; exact Q2.out _ _) | (go_at_call 13; exact Q3.out _ _) | (go_at_call 14; exact Q4.out _ _) | (go_at_call 15; exact Q5.out _ _) | (go_at_call 16; exact Q6.out _ _)))
    refine wpQuiet_nil ?_
    intro w3 hw3
    have hb3 : Below w2.heap.size w2 w3 := by obtain ⟨p, rfl⟩ := hw3; exact below_regrown w2 p.d p.os
    clear hw3 k1 k2 Q1 Q2 Q3 Q4 Q5 Q6
    have hok3 := HOK2.out.mono hb3 hb3.size
    have hf := HF.out
    have c3 := C3.out
    have c4 := C4.out
    rw [← hb3.cell (p := ⟨w.heap.size, _, none⟩) (by show w.heap.size < _; omega)] at c3 c4
    have k3 := cell_regrown c3
    have k4 := cell_regrown c4
    have hl := hf.l
    have ht := hf.t
    have hts := hf.ts
    have hL : ∀ x os, IntsAt (grow (redrawn w3 x) os).heap.size (grow (redrawn w3 x) os) d.aL d.L := fun x os => hok3.atL.mono (below_regrown w3 x os) (below_regrown w3 x os).size
    have hT : ∀ x os, StrsAt (grow (redrawn w3 x) os).heap.size (grow (redrawn w3 x) os) d.aT d.T := fun x os => hok3.atT.mono (below_regrown w3 x os) (below_regrown w3 x os).size
    have q7 : ∀ x os, Calls Try.prog 17 #[.slice d.aL d.L.length d.cL] (grow (redrawn w3 x) os) fun e w'' => e = .returned (.string (ba (encList (d.L.map encInt)))) ∧ ∃ p : Regrown, w'' = grow (redrawn w3 p.d) p.os := fun x os => Calls.regrown_of (wNums_any _ _ _ _ (by omega) hok3.ls (hL x os))
    have q8 : ∀ x os, Calls Try.prog 18 #[.slice d.aL d.L.length d.cL] (grow (redrawn w3 x) os) fun e w'' => e = .returned (.string (ba (encList (d.L.map encInt)))) ∧ ∃ p : Regrown, w'' = grow (redrawn w3 p.d) p.os := fun x os => Calls.regrown_of (rNums_any _ _ _ _ (by omega) hok3.ls (hL x os))
    have q9 : ∀ x os, Calls Try.prog 19 #[.slice d.aT d.T.length d.cT] (grow (redrawn w3 x) os) fun e w'' => e = .returned (.string (ba (encList (d.T.map encStr)))) ∧ ∃ p : Regrown, w'' = grow (redrawn w3 p.d) p.os := fun x os => Calls.regrown_of (wTexts_any _ _ _ _ (by omega) (fun z hz => by have := hts z hz; omega) (hT x os))
    have q10 : ∀ x os, Calls Try.prog 20 #[.slice d.aT d.T.length d.cT] (grow (redrawn w3 x) os) fun e w'' => e = .returned (.string (ba (encList (d.T.map encStr)))) ∧ ∃ p : Regrown, w'' = grow (redrawn w3 p.d) p.os := fun x os => Calls.regrown_of (rTexts_any _ _ _ _ (by omega) (fun z hz => by have := hts z hz; omega) (hT x os))
    clear hL hT hl ht hts hok3 hf c3 c4
    have Q7 := Lib.hid q7; clear q7
    have Q8 := Lib.hid q8; clear q8
    have Q9 := Lib.hid q9; clear q9
    have Q10 := Lib.hid q10; clear q10
    have hb4 := hbT.trans (hb3.mono (by omega))
    have HB4 := Lib.hid hb4
    clear hb4 hbT hb3 HOK2 HF C3 C4
    go_wp2_with fail
    refine wp_region_quiet_below (by kernel_rfl) (by kernel_rfl) ?_
    repeat (quiet_step (first | (go_at_call 17; exact Q7.out _ _) | (go_at_call 18; exact Q8.out _ _) | (go_at_call 19; exact Q9.out _ _) | (go_at_call 20; exact Q10.out _ _)))
    refine wpQuiet_nil ?_
    intro w4 hw4
    have hb5 : Below w3.heap.size w3 w4 := by obtain ⟨p, rfl⟩ := hw4; exact below_regrown w3 p.d p.os
    have HB5 := Lib.hid hb5
    clear hb5 hw4 k3 k4 Q7 Q8 Q9 Q10
    go_wp2_with fail
    go_ret
    exact ⟨rfl, HB4.out.trans (HB5.out.mono HB4.out.size)⟩

end Go.Proofs.Ytamjfnpgjcdepaa
