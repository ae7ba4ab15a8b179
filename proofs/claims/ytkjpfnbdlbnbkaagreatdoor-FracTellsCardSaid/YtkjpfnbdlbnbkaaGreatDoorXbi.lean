/- Walks: Compare of fractions. Walks: Cut at a stroke. Walks: Read of fractions. Printed by a program (gread.py). -/
import Derived.Test.YtkjpfnbdlbnbkaaGreatDoorXbh
import Derived.Test.YtkjpfnbdlbnbkaaGreatDoorXbg
import Derived.Test.YtkjpfnbdlbnbkaaGreatDoorShelf
import Derived.Lib.CutLaws
import Derived.Lib.IndexBytes
import Derived.RegionTactic
import Derived.ChangeAlike

namespace Go.Proofs.YtkjpfnbdlbnbkaaGreatDoor
open Go.RowKit

set_option maxRecDepth 100000 in
set_option maxHeartbeats 8000000 in
theorem rcompare {s1 s2 s3 s4 : Int} {A1 A2 A3 A4 : Option Addr} {n1 d1 n2 d2 n3 d3 n4 d4 : Nat} {x y : Rat} (w : World) (ha : FV w w.heap.size s1 A1 n1 d1 s2 A2 n2 d2 x.num x.den) (hb : FV w w.heap.size s3 A3 n3 d3 s4 A4 n4 d4 y.num y.den) (hx : Rb x 60 60) (hy : Rb y 60 60) :
    Calls Tryz.prog 52 #[.agg #[.int .i64 s1, .slice A1 n1 d1, .int .i64 s2, .slice A2 n2 d2], .agg #[.int .i64 s3, .slice A3 n3 d3, .int .i64 s4, .slice A4 n4 d4]] w fun e w' => e = .returned (.int .i64 (cmpR x y)) ∧ Below w.heap.size w w' := by
  have HX := Lib.hid hx; clear hx
  have HY := Lib.hid hy; clear hy
  obtain ⟨C, hC⟩ : ∃ C, cmpR x y = C := ⟨_, rfl⟩
  rw [hC]
  have HC := Lib.hid hC; clear hC
  go_enter Tryz.func52, Tryz.ntmps52
  go_wp2_with fail
  obtain ⟨W0, hW, hbx, ka, kb⟩ := fboxes1 ha hb
  rw [← hW]
  clear hW ha hb
  have hT := hbx
  have a0 := ka.c0
  have a1 := ka.c1
  have a2 := ka.c2
  have a3 := ka.c3
  go_wp2_with fail
  clear a0 a1 a2 a3
  (with_reducible refine (rright _ ka.fv HX.out).mono ?_)
  rintro e u1 ⟨rfl, hb9⟩
  have hT := hT.trans (hb9.mono hT.size)
  have ka := ka.below hb9
  have kb := kb.below hb9
  have b0 := kb.c0
  have b1 := kb.c1
  have b2 := kb.c2
  have b3 := kb.c3
  go_wp2_with fail
  clear b0 b1 b2 b3
  (with_reducible refine (rright _ kb.fv HY.out).mono ?_)
  rintro e u2 ⟨rfl, hb9⟩
  have hT := hT.trans (hb9.mono hT.size)
  have ka := ka.below hb9
  have kb := kb.below hb9
  have a0 := ka.c0
  have a1 := ka.c1
  have b0 := kb.c0
  have b1 := kb.c1
  go_wp2_with fail
  clear a0 a1 b0 b1
  (with_reducible refine (same_any _ _ _ _ _ ka.fv.a kb.fv.a).mono ?_)
  rintro e u3 ⟨rfl, hb9⟩
  have hT := hT.trans (hb9.mono hT.size)
  have ka := ka.below hb9
  have kb := kb.below hb9
  by_cases hn : x.num = y.num
  · rw [decide_eq_true hn]
    have a2 := ka.c2
    have a3 := ka.c3
    have b2 := kb.c2
    have b3 := kb.c3
    have HN := Lib.hid hn; clear hn
    go_wp2_with fail
    clear a2 a3 b2 b3
    (with_reducible refine (same_any _ _ _ _ _ ka.fv.b kb.fv.b).mono ?_)
    rintro e u4 ⟨rfl, hb9⟩
    have hT := hT.trans (hb9.mono hT.size)
    have ka := ka.below hb9
    have kb := kb.below hb9
    by_cases hd : (x.den : Int) = y.den
    · rw [decide_eq_true hd]
      have hc0 : C = 0 := by rw [← HC.out]; exact cmpR_zero.2 (Rat.ext HN.out (by omega))
      subst hc0
      clear hd
      go_wp2_with fail
      go_ret
      exact ⟨rfl, hT⟩
    · rw [decide_eq_false hd]
      have a0 := ka.c0
      have a1 := ka.c1
      have a2 := ka.c2
      have a3 := ka.c3
      have b0 := kb.c0
      have b1 := kb.c1
      have b2 := kb.c2
      have b3 := kb.c3
      clear hd
      go_wp2_with fail
      clear a0 a1 a2 a3 b0 b1 b2 b3
      (with_reducible refine (forder_any _ _ _ _ _ _ _ _ _ _ _ _ _ _ _ _ _ _ _ _ _ ka.fv kb.fv HX.out.n HX.out.d HY.out.n HY.out.d (FR.pos (FR.of x)) (FR.pos (FR.of y))).mono ?_)
      rintro e u5 ⟨rfl, hb9⟩
      have hT := hT.trans (hb9.mono hT.size)
      rw [ordR, HC.out]
      go_wp2_with fail
      go_ret
      exact ⟨rfl, hT⟩
  · rw [decide_eq_false hn]
    have a0 := ka.c0
    have a1 := ka.c1
    have a2 := ka.c2
    have a3 := ka.c3
    have b0 := kb.c0
    have b1 := kb.c1
    have b2 := kb.c2
    have b3 := kb.c3
    clear hn
    go_wp2_with fail
    clear a0 a1 a2 a3 b0 b1 b2 b3
    (with_reducible refine (forder_any _ _ _ _ _ _ _ _ _ _ _ _ _ _ _ _ _ _ _ _ _ ka.fv kb.fv HX.out.n HX.out.d HY.out.n HY.out.d (FR.pos (FR.of x)) (FR.pos (FR.of y))).mono ?_)
    rintro e u5 ⟨rfl, hb9⟩
    have hT := hT.trans (hb9.mono hT.size)
    rw [ordR, HC.out]
    go_wp2_with fail
    go_ret
    exact ⟨rfl, hT⟩

end Go.Proofs.YtkjpfnbdlbnbkaaGreatDoor

namespace Go.Proofs.YtkjpfnbdlbnbkaaGreatDoor
open Go.RowKit

def CutP (s : ByteArray) (w : World) (e : Ending) (w' : World) : Prop :=
  e = .returned (.tuple #[.string (byt (Lib.cut (bts s) [47]).1), .string (byt (Lib.cut (bts s) [47]).2.1), .bool (Lib.cut (bts s) [47]).2.2]) ∧ ∃ n, w' = w.drewN n

set_option maxRecDepth 100000 in
set_option maxHeartbeats 2000000 in
theorem lcut_any (s : ByteArray) (w : World) (hs : s.size ≤ 100000) :
    Calls Tryz.prog 114 #[.string s, .string ⟨#[47]⟩] w (CutP s w) := by
  unfold CutP
  have hi1 : Lib.indexB s ⟨#[47]⟩ = Lib.indexByte s.data.toList 47 := Lib.index_one _ _
  have hz : (⟨#[47]⟩ : ByteArray).size = 1 := rfl
  rcases Lib.indexB_cases s ⟨#[47]⟩ with hix | ⟨i, hix, hroom⟩
  · obtain ⟨e1, e2, e3⟩ := Lib.cutB_miss s ⟨#[47]⟩ hix
    rw [hi1] at hix
    have HE1 : byt (Lib.cut (bts s) [47]).1 = s := e1
    have HE2 : byt (Lib.cut (bts s) [47]).2.1 = ByteArray.empty := e2
    have HE3 : (Lib.cut (bts s) [47]).2.2 = false := e3
    rw [HE1, HE2, HE3]
    have HIX := Lib.hid hix; clear hix hi1 hz e1 e2 e3 HE1 HE2 HE3
    go_enter Tryz.func114, Tryz.ntmps114
    go_wp2_with fail
    (with_reducible refine (Tryz.stringslite_Index_one _ _ _).mono ?_)
    rintro e w' ⟨rfl, rfl⟩
    rw [HIX.out]
    go_wp2_with fail
    go_ret3
    exact ⟨rfl, 0, rfl⟩
  · obtain ⟨e1, e2, e3⟩ := Lib.cutB_hit s ⟨#[47]⟩ i hix
    rw [hi1] at hix
    have HE1 : byt (Lib.cut (bts s) [47]).1 = s.extract 0 i := e1
    have HE2 : byt (Lib.cut (bts s) [47]).2.1 = s.extract (i + 1) s.size := e2
    have HE3 : (Lib.cut (bts s) [47]).2.2 = true := e3
    rw [HE1, HE2, HE3]
    have c1 : (0 : Int) ≤ ↑i := by omega
    have c2 : (↑i : Int) ≤ ↑s.size := by omega
    have c3 : (0 : Int) ≤ ↑i + 1 := by omega
    have c4 : (↑i + 1 : Int) ≤ ↑s.size := by rw [hz] at hroom; omega
    have c5 : s.size ≤ 9223372036854775807 := by omega
    have HIX := Lib.hid hix; clear hix hi1 hz e1 e2 e3 HE1 HE2 HE3 hroom hs
    go_enter Tryz.func114, Tryz.ntmps114
    go_wp2_with fail
    (with_reducible refine (Tryz.stringslite_Index_one _ _ _).mono ?_)
    rintro e w' ⟨rfl, rfl⟩
    rw [HIX.out]
    go_wp2_with fail
    go_region
    go_wp2_with fail
    go_ret3
    exact ⟨rfl, 1, rfl⟩

set_option maxRecDepth 100000 in
theorem cut_any (s : ByteArray) (w : World) (hs : s.size ≤ 100000) :
    Calls Tryz.prog 95 #[.string s, .string ⟨#[47]⟩] w (CutP s w) := by
  have hc := lcut_any s w hs
  unfold CutP at hc ⊢
  obtain ⟨X, hX⟩ : ∃ X, byt (Lib.cut (bts s) [47]).1 = X := ⟨_, rfl⟩
  obtain ⟨Y, hY⟩ : ∃ X, byt (Lib.cut (bts s) [47]).2.1 = X := ⟨_, rfl⟩
  obtain ⟨Z, hZ⟩ : ∃ X, (Lib.cut (bts s) [47]).2.2 = X := ⟨_, rfl⟩
  rw [hX, hY, hZ] at hc ⊢
  clear hX hY hZ
  have HC := Lib.hid hc; clear hc
  go_enter Tryz.func95, Tryz.ntmps95
  go_wp2_with fail
  (with_reducible refine HC.out.mono ?_)
  rintro e w' ⟨rfl, n, rfl⟩
  go_wp2_with fail
  go_ret3
  exact ⟨rfl, n, rfl⟩

end Go.Proofs.YtkjpfnbdlbnbkaaGreatDoor

namespace Go.Proofs.YtkjpfnbdlbnbkaaGreatDoor
open Go.RowKit

theorem cut_len (l : List UInt8) : (Lib.cut l [47]).1.length ≤ l.length ∧ (Lib.cut l [47]).2.1.length ≤ l.length := by
  rcases split47 l with h | ⟨a, b, h, rfl⟩
  · rw [cut47_none h]; simp
  · rw [cut47 h]; simp only [List.length_append, List.length_cons]; omega
/-- What big's Read returns for a string. -/
theorem bread (s : ByteArray) (hs : s.size ≤ 100000) : ∃ E z, ((E = 0 ∧ bts s = Lib.itoa z ∧ ab z < pw 60) ∨ ((E != 0) = true ∧ z = 0 ∧ ∀ y, ab y < pw 60 → bts s ≠ Lib.itoa y)) ∧
    ∀ w, Calls Tryz.prog 18 #[.string s] w fun e w' => ∃ r, e = .returned (.tuple #[r, .int .i64 E]) ∧ BO w' w.heap.size r z ∧ Below w.heap.size w w' := by
  by_cases h : ∃ z, bts s = Lib.itoa z
  · obtain ⟨z, hz⟩ := h
    by_cases hf : ab z < pw 60
    · refine ⟨0, z, .inl ⟨rfl, hz, hf⟩, fun w => (read_num z s w hz hs).mono ?_⟩
      rintro e w' ⟨r, rfl, hr, hb⟩
      rw [(fits hf).1]
      rw [(fits hf).2] at hr
      exact ⟨r, rfl, hr, hb⟩
    · refine ⟨6, 0, .inr ⟨rfl, rfl, fun y hy e => ?_⟩, fun w => (read_num z s w hz hs).mono ?_⟩
      · obtain rfl := itoa_inj (hz.symm.trans e)
        exact hf hy
      · rintro e w' ⟨r, rfl, hr, hb⟩
        rw [show fite z = 6 from if_neg hf]
        rw [show fitz z = 0 from if_neg hf] at hr
        exact ⟨r, rfl, hr, hb⟩
  · refine ⟨2, 0, .inr ⟨rfl, rfl, fun y _ e => h ⟨y, e⟩⟩, fun w => (read_bad s w (fun z hz => h ⟨z, hz⟩) hs).mono ?_⟩
    rintro e w' ⟨r, rfl, hr, hb⟩
    exact ⟨r, rfl, hr, hb⟩

set_option maxRecDepth 100000 in
set_option maxHeartbeats 8000000 in
theorem fread_yes (s : ByteArray) (w : World) (hs : s.size ≤ 100000) (x : Rat) (hx : bts s = ftx x) (hr : Rb x 60 60) :
    Calls Tryz.prog 46 #[.string s] w (RetF x w) := by
  have hA := bread (byt (Lib.cut (bts s) [47]).1) (by rw [byt_size]; have := (cut_len (bts s)).1; rw [bts_len] at this; omega)
  have hB := bread (byt (Lib.cut (bts s) [47]).2.1) (by rw [byt_size]; have := (cut_len (bts s)).2; rw [bts_len] at this; omega)
  have hcut := fun w => cut_any s w hs
  unfold CutP at hcut
  have h1 : byt (Lib.cut (bts s) [47]).1 = byt (Lib.itoa x.num) := by rw [hx, ftx_cut]
  have h2 : byt (Lib.cut (bts s) [47]).2.1 = byt (Lib.itoa x.den) := by rw [hx, ftx_cut]
  obtain ⟨A, hAA⟩ : ∃ X, byt (Lib.cut (bts s) [47]).1 = X := ⟨_, rfl⟩
  obtain ⟨B, hBB⟩ : ∃ X, byt (Lib.cut (bts s) [47]).2.1 = X := ⟨_, rfl⟩
  obtain ⟨Z, hZ⟩ : ∃ X, (Lib.cut (bts s) [47]).2.2 = X := ⟨_, rfl⟩
  rw [hAA, hBB, hZ] at hcut
  rw [hAA] at hA
  rw [hBB] at hB
  have HCUT := Lib.hid hcut; clear hcut hZ
  obtain ⟨E1, p, hp, hcA⟩ := hA
  obtain ⟨E2, q, hq, hcB⟩ := hB
  have HCA := Lib.hid hcA; clear hcA
  have HCB := Lib.hid hcB; clear hcB
  have e1 : E1 = 0 ∧ p = x.num := by
    rcases hp with ⟨e, h, _⟩ | ⟨_, _, h⟩
    · exact ⟨e, itoa_inj (by rw [← h, ← hAA, h1, bts_byt])⟩
    · exact absurd (by rw [← hAA, h1, bts_byt]) (h _ hr.n)
  have e2 : E2 = 0 ∧ q = x.den := by
    rcases hq with ⟨e, h, _⟩ | ⟨_, _, h⟩
    · exact ⟨e, itoa_inj (by rw [← h, ← hBB, h2, bts_byt])⟩
    · exact absurd (by rw [← hBB, h2, bts_byt]) (h _ hr.d)
  obtain ⟨rfl, rfl⟩ := e1
  obtain ⟨rfl, rfl⟩ := e2
  have HR := Lib.hid hr; clear hr
  clear hAA hBB h1 h2 hx hs hp hq
  unfold RetF
  go_enter Tryz.func46, Tryz.ntmps46
  go_wp2_with fail
  have hT : Below w.heap.size w (w.alloc (.cells #[.int .i64 0, .slice none 0 0, .int .i64 0, .slice none 0 0] 43)) := (Below.refl _ _).alloc (Nat.le_refl _) _
  have kR : Blk (w.alloc (.cells #[.int .i64 0, .slice none 0 0, .int .i64 0, .slice none 0 0] 43)) w.heap.size 43 #[.int .i64 0, .slice none 0 0, .int .i64 0, .slice none 0 0] := Blk.new _ _ _
  (with_reducible refine (HCUT.out _).mono ?_)
  rintro e w' ⟨rfl, nq, rfl⟩
  have hT := below_drewN hT nq
  have kR := kR.drewN nq
  obtain ⟨W0, hW⟩ : ∃ W, W = (w.alloc (.cells #[.int .i64 0, .slice none 0 0, .int .i64 0, .slice none 0 0] 43)).drewN nq := ⟨_, rfl⟩
  rw [← hW] at hT kR ⊢
  clear hW
  have hl0 := kR.lt
  go_wp2_with fail
  (with_reducible refine (HCA.out _).mono ?_)
  rintro e u1 ⟨rp, rfl, hrp, hb9⟩
  have hT := hT.trans (hb9.mono hT.size)
  have kR := kR.below hb9 kR.lt
  obtain ⟨sp, Ap, np, cp, rfl⟩ := hrp.form
  go_wp2_with fail
  obtain ⟨Wp, hW, hbx, kp⟩ := box1 hrp
  have ho1 := hrp.below hbx
  rw [← hW]
  clear hW
  have hT := hT.trans (hbx.mono hT.size)
  have kR := kR.below hbx kR.lt
  have hl1 := kR.lt
  (with_reducible refine (HCB.out _).mono ?_)
  rintro e u2 ⟨rq, rfl, hrq, hb9⟩
  have ho1 := ho1.below hb9
  have hT := hT.trans (hb9.mono hT.size)
  have kR := kR.below hb9 kR.lt
  have kp := kp.below hb9
  obtain ⟨sq, Aq, nq, cq, rfl⟩ := hrq.form
  obtain ⟨Wq, hW, hbx, kq⟩ := box1 hrq
  have hsq : Wq.heap.size = u2.heap.size + 1 := by rw [hW]; simp
  have HSQ := Lib.hid hsq; clear hsq
  have ho1 := ho1.below hbx
  have ho2 := hrq.below hbx
  have kpz := kp.below hbx
  have p0 := kpz.c0
  have p1 := kpz.c1
  have q0 := kq.c0
  have q1 := kq.c1
  rw [hW] at p0 p1 q0 q1
  have fz := fun (W : World) => Blk.new W 43 #[.int .i64 sp, .slice Ap np cp, .int .i64 sq, .slice Aq nq cq]
  have z0 := (fz Wq).cell 0
  have z1 := (fz Wq).cell 1
  have z2 := (fz Wq).cell 2
  have z3 := (fz Wq).cell 3
  rw [hW] at z0 z1 z2 z3
  clear fz
  go_wp2_with fail
  clear p0 p1 q0 q1 kpz
  rw [← hW]
  clear hW
  have hT := hT.trans (hbx.mono hT.size)
  have kR := kR.below hbx kR.lt
  have kp := kp.below hbx
  clear z0 z1 z2 z3
  obtain ⟨Wf, hW, hbx, kf⟩ := fbox1 (w := Wq) (p := x.num) (q := x.den) ⟨kp.bv, kq.bv⟩
  rw [HSQ.out] at kf
  have ho1 := ho1.below hbx
  have ho2 := ho2.below hbx
  rw [← hW]
  clear hW
  have hT := hT.trans (hbx.mono hT.size)
  have kR := kR.below hbx kR.lt
  clear kp kq
  (with_reducible refine (rright _ kf.fv HR.out).mono ?_)
  rintro e u3 ⟨rfl, hb9⟩
  have hT := hT.trans (hb9.mono hT.size)
  have kR := kR.below hb9 kR.lt
  have kf := kf.below hb9
  have g1 := ho1.below hb9
  have g2 := ho2.below hb9
  have gR : w.heap.size ≤ w.heap.size := Nat.le_refl _
  have z0 := kf.c0
  have z1 := kf.c1
  have z2 := kf.c2
  have z3 := kf.c3
  have r0 := kR.cell 0
  have r1 := kR.cell 1
  have r2 := kR.cell 2
  have r3 := kR.cell 3
  have q0' := kR.frozen 0
  have q1' := kR.frozen 1
  have q2' := kR.frozen 2
  have q3' := kR.frozen 3
  simp at r0 r1 r2 r3
  have hbs := kR.set4 (.int .i64 sp) (.slice Ap np cp) (.int .i64 sq) (.slice Aq nq cq)
  have x0 := hbs.cell 0
  have x1 := hbs.cell 1
  have x2 := hbs.cell 2
  have x3 := hbs.cell 3
  simp at x0 x1 x2 x3
  go_wp2_with fail
  refine bodyPost_ret (v := .tuple #[.agg #[.int .i64 sp, .slice Ap np cp, .int .i64 sq, .slice Aq nq cq], .int .i64 0]) (by simp [results, Tryz.results46, go_sem, x0, x1, x2, x3]) rfl ?_
  exact ⟨_, rfl, FO.mk2 ((g1.far4 hl0 _ _ _ _).mono (by omega)) ((g2.far4 hl1 _ _ _ _).mono (by omega)), below_st4 hT gR _ _ _ _⟩


set_option maxRecDepth 100000 in
set_option maxHeartbeats 8000000 in
theorem fread_no (s : ByteArray) (w : World) (hs : s.size ≤ 100000) (hn : ∀ x, Rb x 60 60 → bts s ≠ ftx x) :
    Calls Tryz.prog 46 #[.string s] w fun e w' => e = .returned (.tuple #[.agg #[.int .i64 0, .slice none 0 0, .int .i64 0, .slice none 0 0], .int .i64 2]) ∧ Below w.heap.size w w' := by
  have hA := bread (byt (Lib.cut (bts s) [47]).1) (by rw [byt_size]; have := (cut_len (bts s)).1; rw [bts_len] at this; omega)
  have hB := bread (byt (Lib.cut (bts s) [47]).2.1) (by rw [byt_size]; have := (cut_len (bts s)).2; rw [bts_len] at this; omega)
  have hcut := fun w => cut_any s w hs
  unfold CutP at hcut
  obtain ⟨A, hAA⟩ : ∃ X, byt (Lib.cut (bts s) [47]).1 = X := ⟨_, rfl⟩
  obtain ⟨B, hBB⟩ : ∃ X, byt (Lib.cut (bts s) [47]).2.1 = X := ⟨_, rfl⟩
  obtain ⟨Z, hZ⟩ : ∃ X, (Lib.cut (bts s) [47]).2.2 = X := ⟨_, rfl⟩
  rw [hAA, hBB, hZ] at hcut
  rw [hAA] at hA
  rw [hBB] at hB
  have HCUT := Lib.hid hcut; clear hcut hZ
  obtain ⟨E1, p, hp, hcA⟩ := hA
  obtain ⟨E2, q, hq, hcB⟩ := hB
  have HCA := Lib.hid hcA; clear hcA
  have HCB := Lib.hid hcB; clear hcB
  have hall : ((E1 != 0) = true) ∨ (E1 = 0 ∧ (E2 != 0) = true) ∨ (E1 = 0 ∧ E2 = 0 ∧ ab p < pw 60 ∧ ab q < pw 60 ∧ ¬ FR p q) := by
    rcases hp with ⟨e, h, g⟩ | ⟨h, _⟩
    · rcases hq with ⟨e', h', g'⟩ | ⟨h', _⟩
      · refine .inr (.inr ⟨e, e', g, g', fun hf => ?_⟩)
        obtain ⟨x, rfl, rfl⟩ := hf.rat
        refine hn x ⟨g, g'⟩ (ftx_of ?_ ?_)
        · rw [← h, ← hAA, bts_byt]
        · rw [← h', ← hBB, bts_byt]
      · exact .inr (.inl ⟨e, h'⟩)
    · exact .inl h
  have HALL := Lib.hid hall; clear hall
  clear hAA hBB hn hs hp hq
  go_enter Tryz.func46, Tryz.ntmps46
  go_wp2_with fail
  have hT : Below w.heap.size w (w.alloc (.cells #[.int .i64 0, .slice none 0 0, .int .i64 0, .slice none 0 0] 43)) := (Below.refl _ _).alloc (Nat.le_refl _) _
  have kR : Blk (w.alloc (.cells #[.int .i64 0, .slice none 0 0, .int .i64 0, .slice none 0 0] 43)) w.heap.size 43 #[.int .i64 0, .slice none 0 0, .int .i64 0, .slice none 0 0] := Blk.new _ _ _
  (with_reducible refine (HCUT.out _).mono ?_)
  rintro e w' ⟨rfl, nq, rfl⟩
  have hT := below_drewN hT nq
  have kR := kR.drewN nq
  obtain ⟨W0, hW⟩ : ∃ W, W = (w.alloc (.cells #[.int .i64 0, .slice none 0 0, .int .i64 0, .slice none 0 0] 43)).drewN nq := ⟨_, rfl⟩
  rw [← hW] at hT kR ⊢
  clear hW
  go_wp2_with fail
  (with_reducible refine (HCA.out _).mono ?_)
  rintro e u1 ⟨rp, rfl, hrp, hb9⟩
  have hT := hT.trans (hb9.mono hT.size)
  have kR := kR.below hb9 kR.lt
  obtain ⟨sp, Ap, np, cp, rfl⟩ := hrp.form
  go_wp2_with fail
  obtain ⟨Wp, hW, hbx, kp⟩ := box1 hrp
  rw [← hW]
  clear hW
  have hT := hT.trans (hbx.mono hT.size)
  have kR := kR.below hbx kR.lt
  (with_reducible refine (HCB.out _).mono ?_)
  rintro e u2 ⟨rq, rfl, hrq, hb9⟩
  have hT := hT.trans (hb9.mono hT.size)
  have kR := kR.below hb9 kR.lt
  have kp := kp.below hb9
  obtain ⟨sq, Aq, nq, cq, rfl⟩ := hrq.form
  obtain ⟨Wq, hW, hbx, kq⟩ := box1 hrq
  have hsq : Wq.heap.size = u2.heap.size + 1 := by rw [hW]; simp
  have HSQ := Lib.hid hsq; clear hsq
  have kpz := kp.below hbx
  have p0 := kpz.c0
  have p1 := kpz.c1
  have q0 := kq.c0
  have q1 := kq.c1
  rw [hW] at p0 p1 q0 q1
  have fz := fun (W : World) => Blk.new W 43 #[.int .i64 sp, .slice Ap np cp, .int .i64 sq, .slice Aq nq cq]
  have z0 := (fz Wq).cell 0
  have z1 := (fz Wq).cell 1
  have z2 := (fz Wq).cell 2
  have z3 := (fz Wq).cell 3
  rw [hW] at z0 z1 z2 z3
  clear fz
  rcases HALL.out with hc | ⟨rfl, hc⟩ | ⟨rfl, rfl, hab1, hab2, hfr⟩
  · have kRz := (kR.below hbx kR.lt).below ((Below.refl _ Wq).alloc (Nat.le_refl _) (.cells #[.int .i64 sp, .slice Ap np cp, .int .i64 sq, .slice Aq nq cq] 43)) (kR.below hbx kR.lt).lt
    have hTz := (hT.trans (hbx.mono hT.size)).alloc (hT.trans (hbx.mono hT.size)).size (.cells #[.int .i64 sp, .slice Ap np cp, .int .i64 sq, .slice Aq nq cq] 43)
    rw [hW] at kRz hTz
    clear hT kR
    have hT := hTz
    have kR := kRz
    clear hTz kRz
    have gR : w.heap.size ≤ w.heap.size := Nat.le_refl _
    have r0 := kR.cell 0
    have r1 := kR.cell 1
    have r2 := kR.cell 2
    have r3 := kR.cell 3
    have q0' := kR.frozen 0
    have q1' := kR.frozen 1
    have q2' := kR.frozen 2
    have q3' := kR.frozen 3
    simp at r0 r1 r2 r3
    have hbs := kR.set4 (.int .i64 0) (.slice none 0 0) (.int .i64 0) (.slice none 0 0)
    have x0 := hbs.cell 0
    have x1 := hbs.cell 1
    have x2 := hbs.cell 2
    have x3 := hbs.cell 3
    simp at x0 x1 x2 x3
    go_wp2_with fail
    refine bodyPost_ret (v := .tuple #[.agg #[.int .i64 0, .slice none 0 0, .int .i64 0, .slice none 0 0], .int .i64 2]) (by simp [results, Tryz.results46, go_sem, x0, x1, x2, x3]) rfl ?_
    exact ⟨rfl, below_st4 hT gR _ _ _ _⟩
  · have kRz := (kR.below hbx kR.lt).below ((Below.refl _ Wq).alloc (Nat.le_refl _) (.cells #[.int .i64 sp, .slice Ap np cp, .int .i64 sq, .slice Aq nq cq] 43)) (kR.below hbx kR.lt).lt
    have hTz := (hT.trans (hbx.mono hT.size)).alloc (hT.trans (hbx.mono hT.size)).size (.cells #[.int .i64 sp, .slice Ap np cp, .int .i64 sq, .slice Aq nq cq] 43)
    rw [hW] at kRz hTz
    clear hT kR
    have hT := hTz
    have kR := kRz
    clear hTz kRz
    have gR : w.heap.size ≤ w.heap.size := Nat.le_refl _
    have r0 := kR.cell 0
    have r1 := kR.cell 1
    have r2 := kR.cell 2
    have r3 := kR.cell 3
    have q0' := kR.frozen 0
    have q1' := kR.frozen 1
    have q2' := kR.frozen 2
    have q3' := kR.frozen 3
    simp at r0 r1 r2 r3
    have hbs := kR.set4 (.int .i64 0) (.slice none 0 0) (.int .i64 0) (.slice none 0 0)
    have x0 := hbs.cell 0
    have x1 := hbs.cell 1
    have x2 := hbs.cell 2
    have x3 := hbs.cell 3
    simp at x0 x1 x2 x3
    go_wp2_with fail
    refine bodyPost_ret (v := .tuple #[.agg #[.int .i64 0, .slice none 0 0, .int .i64 0, .slice none 0 0], .int .i64 2]) (by simp [results, Tryz.results46, go_sem, x0, x1, x2, x3]) rfl ?_
    exact ⟨rfl, below_st4 hT gR _ _ _ _⟩
  · have HA1 := Lib.hid hab1; clear hab1
    have HA2 := Lib.hid hab2; clear hab2
    have hfc : (0 < q ∧ decide (((Int.gcd p q : Nat) : Int) = 1) = false) ∨ ¬ 0 < q := by
      by_cases h0 : 0 < q
      · exact .inl ⟨h0, decide_eq_false (fun h1 => hfr ⟨h0, h1⟩)⟩
      · exact .inr h0
    clear hfr
    have HFC := Lib.hid hfc; clear hfc
    go_wp2_with fail
    clear p0 p1 q0 q1 kpz z0 z1 z2 z3
    rw [← hW]
    clear hW
    have hT := hT.trans (hbx.mono hT.size)
    have kR := kR.below hbx kR.lt
    have kp := kp.below hbx
    obtain ⟨Wf, hW, hbx, kf⟩ := fbox1 (w := Wq) (p := p) (q := q) ⟨kp.bv, kq.bv⟩
    rw [HSQ.out] at kf
    rw [← hW]
    clear hW
    have hT := hT.trans (hbx.mono hT.size)
    have kR := kR.below hbx kR.lt
    clear kp kq
    have hri : Calls Tryz.prog 50 #[.agg #[.int .i64 sp, .slice Ap np cp, .int .i64 sq, .slice Aq nq cq]] Wf fun e w' => e = .returned (.bool false) ∧ Below Wf.heap.size Wf w' := by
      rcases HFC.out with ⟨h0, h1⟩ | h0
      · exact fright_pos _ kf.fv HA1.out HA2.out h0 false h1
      · exact fright_low _ kf.fv HA1.out HA2.out (by omega)
    (with_reducible refine hri.mono ?_)
    rintro e u3 ⟨rfl, hb9⟩
    have hT := hT.trans (hb9.mono hT.size)
    have kR := kR.below hb9 kR.lt
    clear kf hri
    have gR : w.heap.size ≤ w.heap.size := Nat.le_refl _
    have r0 := kR.cell 0
    have r1 := kR.cell 1
    have r2 := kR.cell 2
    have r3 := kR.cell 3
    have q0' := kR.frozen 0
    have q1' := kR.frozen 1
    have q2' := kR.frozen 2
    have q3' := kR.frozen 3
    simp at r0 r1 r2 r3
    have hbs := kR.set4 (.int .i64 0) (.slice none 0 0) (.int .i64 0) (.slice none 0 0)
    have x0 := hbs.cell 0
    have x1 := hbs.cell 1
    have x2 := hbs.cell 2
    have x3 := hbs.cell 3
    simp at x0 x1 x2 x3
    go_wp2_with fail
    refine bodyPost_ret (v := .tuple #[.agg #[.int .i64 0, .slice none 0 0, .int .i64 0, .slice none 0 0], .int .i64 2]) (by simp [results, Tryz.results46, go_sem, x0, x1, x2, x3]) rfl ?_
    exact ⟨rfl, below_st4 hT gR _ _ _ _⟩

end Go.Proofs.YtkjpfnbdlbnbkaaGreatDoor
