/- Walks of the laws' helpers: kind, number, write. -/
import Derived.Test.YtamjfnpgjcdepaaLa
import Derived.Test.YtamjfnpgjcdepaaPd
namespace Go.Proofs.Ytamjfnpgjcdepaa
open Go.RowKit

def numberP (n : Int) : Int := if n < 0 then -(n + 1) else n
theorem numberP_nonneg {n : Int} : 0 ≤ numberP n := by unfold numberP; split <;> omega
theorem numberP_i64 {n : Int} (h : isI64 n) : isI64 (numberP n) := by unfold numberP isI64 at *; split <;> omega

set_option maxHeartbeats 400000 in
theorem number_any (n : Int) (w : World) (hn : isI64 n) : Calls Try.prog 58 #[.int .i64 n] w fun e w' => e = .returned (.int .i64 (numberP n)) ∧ w = w' := by
  unfold isI64 at hn
  unfold numberP
  by_cases h : n < 0
  · rw [if_pos h]
    go_enter Try.func58, Try.ntmps58
    go_wp2_with fail
    go_ret
    exact ⟨rfl, rfl⟩
  · rw [if_neg h]
    go_enter Try.func58, Try.ntmps58
    go_wp2_with fail
    go_ret
    exact ⟨rfl, rfl⟩

theorem tmod5 {n : Int} (h : n ≤ 0) : n.tmod 5 = -((-n) % 5) := by
  obtain ⟨m, rfl⟩ : ∃ m, n = -m := ⟨-n, by omega⟩
  rw [Int.neg_tmod, Int.tmod_eq_emod_of_nonneg (by omega)]; omega

set_option maxHeartbeats 400000 in
theorem kind_any (d : Vd) (k : Int) (hk : d.K % 5 = k) (w : World) : Calls Try.prog 23 #[d.val] w fun e w' => e = .returned (.int .i64 k) ∧ Below w.heap.size w w' := by
  unfold Vd.val
  have hB := (Below.refl w.heap.size w).alloc (Nat.le_refl _) (.cells d.parts.toArray 25)
  have HB := Lib.hid hB; clear hB
  have HK := Lib.hid hk; clear hk
  by_cases h : 0 ≤ d.K
  · go_enter Try.func23, Try.ntmps23
    go_wp2_with fail
    go_ret
    exact ⟨by rw [← HK.out]; rfl, HB.out⟩
  · have ht := tmod5 (n := d.K) (by omega)
    have hlo : -4 ≤ d.K.tmod 5 ∧ d.K.tmod 5 ≤ 0 := by rw [ht]; omega
    by_cases h0 : d.K.tmod 5 < 0
    · have hr : d.K.tmod 5 + 5 = k := by have := HK.out; omega
      have HR := Lib.hid hr; clear hr ht
      obtain ⟨l1, l2⟩ := hlo
      go_enter Try.func23, Try.ntmps23
      go_wp2_with fail
      go_ret
      exact ⟨congrArg (fun z => Ending.returned (.int .i64 z)) HR.out, HB.out⟩
    · have hr : d.K.tmod 5 = k := by have := HK.out; omega
      have HR := Lib.hid hr; clear hr ht
      obtain ⟨l1, l2⟩ := hlo
      go_enter Try.func23, Try.ntmps23
      go_wp2_with fail
      go_ret
      exact ⟨congrArg (fun z => Ending.returned (.int .i64 z)) HR.out, HB.out⟩

/-- The encoding of a value of the law. -/
def encV (d : Vd) : List UInt8 :=
  if d.K % 5 = 0 then encInt (numberP d.N) else if d.K % 5 = 1 then encInt d.N else if d.K % 5 = 2 then encStr d.S else if d.K % 5 = 3 then encList (d.L.map encInt) else encList (d.T.map encStr)

theorem kinds (d : Vd) : d.K % 5 = 0 ∨ d.K % 5 = 1 ∨ d.K % 5 = 2 ∨ d.K % 5 = 3 ∨ d.K % 5 = 4 := by omega

/-- What is wanted of a value to write and read it. -/
structure Vd.Fit (d : Vd) (B : Nat) (w : World) : Prop where
  n : isI64 d.N
  ls : ∀ z ∈ d.L, isI64 z
  l : d.L.length ≤ 400
  t : d.T.length ≤ 400
  s : d.S.size ≤ 400
  ts : ∀ x ∈ d.T, x.size ≤ 400
  atL : IntsAt B w d.aL d.L
  atT : StrsAt B w d.aT d.T
theorem Vd.Fit.of {d : Vd} {B : Nat} {w : World} (h : d.Ok B w) (f : d.Few) : d.Fit B w := ⟨h.n, h.ls, f.l, f.t, f.s, f.ts, h.atL, h.atT⟩
theorem Vd.Fit.mono {d : Vd} {B B' : Nat} {w w' : World} (h : d.Fit B w) (hb : Below B w w') (hB : B ≤ B') : d.Fit B' w' := ⟨h.n, h.ls, h.l, h.t, h.s, h.ts, h.atL.mono hb hB, h.atT.mono hb hB⟩

set_option maxHeartbeats 4000000 in
theorem write_any (d : Vd) (w : World) (hf : d.Fit w.heap.size w) : Calls Try.prog 42 #[d.val] w fun e w' => e = .returned (.string (ba (encV d))) ∧ Below w.heap.size w w' := by
  have hB := (Below.refl w.heap.size w).alloc (Nat.le_refl _) (.cells d.parts.toArray 25)
  obtain ⟨c0, c1, c2, c3, c4⟩ := d.at_alloc w 25
  have HF := Lib.hid hf; clear hf
  have HB := Lib.hid hB; clear hB
  rcases kinds d with hk | hk | hk | hk | hk
  · have he : encV d = encInt (numberP d.N) := by unfold encV; rw [if_pos hk]
    rw [he]
    have HK := Lib.hid hk; clear hk he c0 c2 c3 c4
    rw [show d.val = .agg #[.int .i64 d.K, .int .i64 d.N, .string d.S, .slice d.aL d.L.length d.cL, .slice d.aT d.T.length d.cT] from rfl]
    go_enter Try.func42, Try.ntmps42
    go_wp2_with fail
    refine (kind_any d 0 HK.out _).mono ?_
    rintro e w1 ⟨rfl, hb1⟩
    have c1' := (hb1.cell (p := ⟨w.heap.size, 1, none⟩) (by simp)).trans c1
    clear c1
    go_wp2_with fail
    refine (number_any _ _ HF.out.n).mono ?_
    rintro e w2 ⟨rfl, rfl⟩
    go_wp2_with fail
    refine (wNum_pos _ _ (numberP_i64 HF.out.n) numberP_nonneg).mono ?_
    rintro e w2 ⟨rfl, hb2⟩
    go_wp2_with fail
    go_ret
    refine ⟨rfl, (HB.out.trans (hb1.mono (by simp))).trans (hb2.mono ?_)⟩
    have := hb1.size; simp at this; omega
  · have he : encV d = encInt d.N := by unfold encV; rw [if_neg (by omega), if_pos hk]
    rw [he]
    have HK := Lib.hid hk; clear hk he c0 c2 c3 c4
    rw [show d.val = .agg #[.int .i64 d.K, .int .i64 d.N, .string d.S, .slice d.aL d.L.length d.cL, .slice d.aT d.T.length d.cT] from rfl]
    go_enter Try.func42, Try.ntmps42
    go_wp2_with fail
    refine (kind_any d 1 HK.out _).mono ?_
    rintro e w1 ⟨rfl, hb1⟩
    have cc := (hb1.cell (p := ⟨w.heap.size, 1, none⟩) (by simp)).trans c1
    clear c1
    have hs1 : w.heap.size ≤ w1.heap.size := by have := hb1.size; simp at this; omega
    have hbT := HB.out.trans (hb1.mono (by simp))
    have hF := HF.out.mono hbT hs1
    have HBT := Lib.hid hbT
    have HF1 := Lib.hid hF
    clear hF hbT hb1
    go_wp2_with fail
    refine (wInt_any _ _ HF1.out.n).mono ?_
    rintro e w2 ⟨rfl, hb2⟩
    go_wp2_with fail
    go_ret
    exact ⟨rfl, HBT.out.trans (hb2.mono hs1)⟩
  · have he : encV d = encStr d.S := by unfold encV; rw [if_neg (by omega), if_neg (by omega), if_pos hk]
    rw [he]
    have HK := Lib.hid hk; clear hk he c0 c1 c3 c4
    rw [show d.val = .agg #[.int .i64 d.K, .int .i64 d.N, .string d.S, .slice d.aL d.L.length d.cL, .slice d.aT d.T.length d.cT] from rfl]
    go_enter Try.func42, Try.ntmps42
    go_wp2_with fail
    refine (kind_any d 2 HK.out _).mono ?_
    rintro e w1 ⟨rfl, hb1⟩
    have cc := (hb1.cell (p := ⟨w.heap.size, 2, none⟩) (by simp)).trans c2
    clear c2
    have hs1 : w.heap.size ≤ w1.heap.size := by have := hb1.size; simp at this; omega
    have hbT := HB.out.trans (hb1.mono (by simp))
    have hF := HF.out.mono hbT hs1
    have HBT := Lib.hid hbT
    have HF1 := Lib.hid hF
    clear hF hbT hb1
    go_wp2_with fail
    refine (wText_any _ _ (Nat.le_trans HF1.out.s (by omega))).mono ?_
    rintro e w2 ⟨rfl, hb2⟩
    go_wp2_with fail
    go_ret
    exact ⟨rfl, HBT.out.trans (hb2.mono hs1)⟩
  · have he : encV d = encList (d.L.map encInt) := by unfold encV; rw [if_neg (by omega), if_neg (by omega), if_neg (by omega), if_pos hk]
    rw [he]
    have HK := Lib.hid hk; clear hk he c0 c1 c2 c4
    rw [show d.val = .agg #[.int .i64 d.K, .int .i64 d.N, .string d.S, .slice d.aL d.L.length d.cL, .slice d.aT d.T.length d.cT] from rfl]
    go_enter Try.func42, Try.ntmps42
    go_wp2_with fail
    refine (kind_any d 3 HK.out _).mono ?_
    rintro e w1 ⟨rfl, hb1⟩
    have cc := (hb1.cell (p := ⟨w.heap.size, 3, none⟩) (by simp)).trans c3
    clear c3
    have hs1 : w.heap.size ≤ w1.heap.size := by have := hb1.size; simp at this; omega
    have hbT := HB.out.trans (hb1.mono (by simp))
    have hF := HF.out.mono hbT hs1
    have HBT := Lib.hid hbT
    have HF1 := Lib.hid hF
    clear hF hbT hb1
    go_wp2_with fail
    refine (wNums_any _ _ _ _ (Nat.le_trans HF1.out.l (by omega)) HF1.out.ls HF1.out.atL).mono ?_
    rintro e w2 ⟨rfl, hb2⟩
    go_wp2_with fail
    go_ret
    exact ⟨rfl, HBT.out.trans (hb2.mono hs1)⟩
  · have he : encV d = encList (d.T.map encStr) := by unfold encV; rw [if_neg (by omega), if_neg (by omega), if_neg (by omega), if_neg (by omega)]
    rw [he]
    have HK := Lib.hid hk; clear hk he c0 c1 c2 c3
    rw [show d.val = .agg #[.int .i64 d.K, .int .i64 d.N, .string d.S, .slice d.aL d.L.length d.cL, .slice d.aT d.T.length d.cT] from rfl]
    go_enter Try.func42, Try.ntmps42
    go_wp2_with fail
    refine (kind_any d 4 HK.out _).mono ?_
    rintro e w1 ⟨rfl, hb1⟩
    have cc := (hb1.cell (p := ⟨w.heap.size, 4, none⟩) (by simp)).trans c4
    clear c4
    have hs1 : w.heap.size ≤ w1.heap.size := by have := hb1.size; simp at this; omega
    have hbT := HB.out.trans (hb1.mono (by simp))
    have hF := HF.out.mono hbT hs1
    have HBT := Lib.hid hbT
    have HF1 := Lib.hid hF
    clear hF hbT hb1
    go_wp2_with fail
    refine (wTexts_any _ _ _ _ (Nat.le_trans HF1.out.t (by omega)) (fun x hx => Nat.le_trans (HF1.out.ts x hx) (by omega)) HF1.out.atT).mono ?_
    rintro e w2 ⟨rfl, hb2⟩
    go_wp2_with fail
    go_ret
    exact ⟨rfl, HBT.out.trans (hb2.mono hs1)⟩

end Go.Proofs.Ytamjfnpgjcdepaa
