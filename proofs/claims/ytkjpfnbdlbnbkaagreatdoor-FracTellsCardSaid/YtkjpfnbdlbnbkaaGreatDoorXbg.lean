/- Walks: Floor of a right fraction. Walks: the reference's Floor and Text; New and Floor where an argument is not right. Printed by a program (rfmore.py). Plain: the text of a fraction, cut at its stroke. No program. -/
import Derived.Test.YtkjpfnbdlbnbkaaGreatDoorXba
import Derived.Test.YtkjpfnbdlbnbkaaGreatDoorXbf
import Derived.Test.YtkjpfnbdlbnbkaaGreatDoorXbb
import Derived.Test.YtkjpfnbdlbnbkaaGreatDoorXbe
import Derived.Lib.IndexMore

namespace Go.Proofs.YtkjpfnbdlbnbkaaGreatDoor
open Go.RowKit

set_option maxRecDepth 100000 in
set_option maxHeartbeats 4000000 in
theorem ffloor_any (s1 s2 : Int) (A1 A2 : Option Addr) (n1 d1 n2 d2 : Nat) (p q : Int) (w : World) (ha : FV w w.heap.size s1 A1 n1 d1 s2 A2 n2 d2 p q) (h1 : ab p < pw 60) (h2 : ab q < pw 60) (f1 : FR p q) :
    Calls Tryz.prog 57 #[.agg #[.int .i64 s1, .slice A1 n1 d1, .int .i64 s2, .slice A2 n2 d2]] w fun e w' => ∃ r z m, e = .returned r ∧ QR p q z m ∧ BO w' w.heap.size r z ∧ Below w.heap.size w w' := by
  have H1 := Lib.hid h1; clear h1
  have H2 := Lib.hid h2; clear h2
  have F1 := Lib.hid f1; clear f1
  go_enter Tryz.func57, Tryz.ntmps57
  go_wp2_with fail
  obtain ⟨Wf, hW, hbx, ka⟩ := fbox1 ha
  have hsz : Wf.heap.size = w.heap.size + 1 := by rw [hW]; simp
  rw [← hW]
  clear hW ha
  have hT := hbx.alloc hbx.size (.cells #[.int .i64 0, .slice none 0 0] 24)
  have ka := ka.below ((Below.refl _ Wf).alloc (Nat.le_refl _) (.cells #[.int .i64 0, .slice none 0 0] 24))
  have kR : Blk (Wf.alloc (.cells #[.int .i64 0, .slice none 0 0] 24)) Wf.heap.size 24 #[.int .i64 0, .slice none 0 0] := Blk.new _ _ _
  rw [hsz] at kR
  clear hsz
  have hg : w.heap.size ≤ w.heap.size + 1 := by omega
  obtain ⟨W0, hW⟩ : ∃ W, W = Wf.alloc (.cells #[.int .i64 0, .slice none 0 0] 24) := ⟨_, rfl⟩
  rw [← hW] at hT ka kR ⊢
  clear hW hbx
  have HG := Lib.hid hg; clear hg
  have a0 := ka.c0
  have a1 := ka.c1
  have a2 := ka.c2
  have a3 := ka.c3
  go_wp2_with fail
  clear a0 a1 a2 a3
  (with_reducible refine (fright_pos _ ka.fv H1.out H2.out (FR.pos F1.out) true (decide_eq_true (FR.one F1.out))).mono ?_)
  rintro e u1 ⟨rfl, hb9⟩
  have hT := hT.trans (hb9.mono hT.size)
  have kR := kR.below hb9 kR.lt
  have ka := ka.below hb9
  have a0 := ka.c0
  have a1 := ka.c1
  have a2 := ka.c2
  have a3 := ka.c3
  go_wp2_with fail
  clear a0 a1 a2 a3
  have hlt := kR.lt
  have HLT := Lib.hid hlt; clear hlt
  (with_reducible refine (div_any _ _ _ _ _ ka.fv.a ka.fv.b H1.out H2.out (by have := FR.pos F1.out; omega)).mono ?_)
  rintro e u2 ⟨rz, rm, z, m, rfl, hrz, hrm, hqr, hb9⟩
  have hT := hT.trans (hb9.mono hT.size)
  have kR := kR.below hb9 kR.lt
  have HQR := Lib.hid hqr; clear hqr
  obtain ⟨sz, Az, nz, cz, rfl⟩ := hrz.form
  obtain ⟨sm, Am, nm, cm, rfl⟩ := hrm.form
  obtain ⟨W9, hW, hbx, kz, km⟩ := box2 hrz hrm
  have kR := kR.below hbx kR.lt
  have hrz := hrz.below hbx
  have hT := hT.trans (hbx.mono hT.size)
  rw [hW] at kz km kR hrz hT
  clear hW hbx hrm
  have z0 := kz.c0
  have z1 := kz.c1
  have r0 := kR.cell 0
  have r1 := kR.cell 1
  have f0 := kR.frozen 0
  have f1 := kR.frozen 1
  simp at r0 r1
  have hbs := kR.set2 (.int .i64 sz) (.slice Az nz cz)
  have x0 := hbs.cell 0
  have x1 := hbs.cell 1
  simp at x0 x1
  go_wp2_with fail
  refine bodyPost_ret (v := .agg #[.int .i64 sz, .slice Az nz cz]) (by simp [results, Tryz.results57, go_sem, x0, x1]) rfl ?_
  exact ⟨_, z, m, rfl, HQR.out, (hrz.far2 HLT.out _ _).mono (Nat.le_trans HG.out (Nat.le_of_lt HLT.out)), below_st hT HG.out _ _⟩

end Go.Proofs.YtkjpfnbdlbnbkaaGreatDoor

namespace Go.Proofs.YtkjpfnbdlbnbkaaGreatDoor
open Go.RowKit

set_option maxRecDepth 100000 in
set_option maxHeartbeats 4000000 in
theorem rffloor_any (s1 s2 : Int) (A1 A2 : Option Addr) (n1 d1 n2 d2 : Nat) (p q : Int) (w : World) (ha : FV w w.heap.size s1 A1 n1 d1 s2 A2 n2 d2 p q) (h1 : ab p < pw 60) (h2 : ab q < pw 60) (f1 : FR p q) :
    Calls Tryz.prog 58 #[.agg #[.int .i64 s1, .slice A1 n1 d1, .int .i64 s2, .slice A2 n2 d2]] w fun e w' => ∃ r z m, e = .returned r ∧ QR p q z m ∧ BO w' w.heap.size r z ∧ Below w.heap.size w w' := by
  have H1 := Lib.hid h1; clear h1
  have H2 := Lib.hid h2; clear h2
  have F1 := Lib.hid f1; clear f1
  go_enter Tryz.func58, Tryz.ntmps58
  go_wp2_with fail
  obtain ⟨Wf, hW, hbx, ka⟩ := fbox1 ha
  have hsz : Wf.heap.size = w.heap.size + 1 := by rw [hW]; simp
  rw [← hW]
  clear hW ha
  have hT := hbx.alloc hbx.size (.cells #[.int .i64 0, .slice none 0 0] 24)
  have ka := ka.below ((Below.refl _ Wf).alloc (Nat.le_refl _) (.cells #[.int .i64 0, .slice none 0 0] 24))
  have kR : Blk (Wf.alloc (.cells #[.int .i64 0, .slice none 0 0] 24)) Wf.heap.size 24 #[.int .i64 0, .slice none 0 0] := Blk.new _ _ _
  rw [hsz] at kR
  clear hsz
  have hg : w.heap.size ≤ w.heap.size + 1 := by omega
  obtain ⟨W0, hW⟩ : ∃ W, W = Wf.alloc (.cells #[.int .i64 0, .slice none 0 0] 24) := ⟨_, rfl⟩
  rw [← hW] at hT ka kR ⊢
  clear hW hbx
  have HG := Lib.hid hg; clear hg
  have a0 := ka.c0
  have a1 := ka.c1
  have a2 := ka.c2
  have a3 := ka.c3
  go_wp2_with fail
  clear a0 a1 a2 a3
  (with_reducible refine (rfright_yes _ ka.fv H1.out H2.out F1.out).mono ?_)
  rintro e u1 ⟨rfl, hb9⟩
  have hT := hT.trans (hb9.mono hT.size)
  have kR := kR.below hb9 kR.lt
  have ka := ka.below hb9
  have a0 := ka.c0
  have a1 := ka.c1
  have a2 := ka.c2
  have a3 := ka.c3
  go_wp2_with fail
  clear a0 a1 a2 a3
  have hlt := kR.lt
  have HLT := Lib.hid hlt; clear hlt
  (with_reducible refine (rdiv_any _ ka.fv.a ka.fv.b H1.out H2.out (by have := FR.pos F1.out; omega)).mono ?_)
  rintro e u2 ⟨rz, rm, z, m, rfl, hrz, hrm, hqr, hb9⟩
  have hT := hT.trans (hb9.mono hT.size)
  have kR := kR.below hb9 kR.lt
  have HQR := Lib.hid hqr; clear hqr
  obtain ⟨sz, Az, nz, cz, rfl⟩ := hrz.form
  obtain ⟨sm, Am, nm, cm, rfl⟩ := hrm.form
  obtain ⟨W9, hW, hbx, kz, km⟩ := box2 hrz hrm
  have kR := kR.below hbx kR.lt
  have hrz := hrz.below hbx
  have hT := hT.trans (hbx.mono hT.size)
  rw [hW] at kz km kR hrz hT
  clear hW hbx hrm
  have z0 := kz.c0
  have z1 := kz.c1
  have r0 := kR.cell 0
  have r1 := kR.cell 1
  have f0 := kR.frozen 0
  have f1 := kR.frozen 1
  simp at r0 r1
  have hbs := kR.set2 (.int .i64 sz) (.slice Az nz cz)
  have x0 := hbs.cell 0
  have x1 := hbs.cell 1
  simp at x0 x1
  go_wp2_with fail
  refine bodyPost_ret (v := .agg #[.int .i64 sz, .slice Az nz cz]) (by simp [results, Tryz.results58, go_sem, x0, x1]) rfl ?_
  exact ⟨_, z, m, rfl, HQR.out, (hrz.far2 HLT.out _ _).mono (Nat.le_trans HG.out (Nat.le_of_lt HLT.out)), below_st hT HG.out _ _⟩

set_option maxRecDepth 100000 in
set_option maxHeartbeats 4000000 in
theorem rftext_any (s1 s2 : Int) (A1 A2 : Option Addr) (n1 d1 n2 d2 : Nat) (p q : Int) (w : World) (ha : FV w w.heap.size s1 A1 n1 d1 s2 A2 n2 d2 p q) (h1 : ab p < pw 60) (h2 : ab q < pw 60) (f1 : FR p q) :
    Calls Tryz.prog 55 #[.agg #[.int .i64 s1, .slice A1 n1 d1, .int .i64 s2, .slice A2 n2 d2]] w fun e w' => e = .returned (.string (byt (Lib.itoa p ++ [47] ++ Lib.itoa q))) ∧ Below w.heap.size w w' := by
  have hl1 := text_size h1
  have hl2 := text_size h2
  have hcat : byt (Lib.itoa p) ++ ⟨#[47]⟩ ++ byt (Lib.itoa q) = byt (Lib.itoa p ++ [47] ++ Lib.itoa q) := by
    rw [show (⟨#[47]⟩ : ByteArray) = byt [47] from rfl, byt_app, byt_app]
  have H1 := Lib.hid h1; clear h1
  have H2 := Lib.hid h2; clear h2
  have F1 := Lib.hid f1; clear f1
  obtain ⟨S1, hS1⟩ : ∃ S, byt (Lib.itoa p) = S := ⟨_, rfl⟩
  obtain ⟨S2, hS2⟩ : ∃ S, byt (Lib.itoa q) = S := ⟨_, rfl⟩
  obtain ⟨S4, hS4⟩ : ∃ S, byt (Lib.itoa p ++ [47] ++ Lib.itoa q) = S := ⟨_, rfl⟩
  rw [hS1, hS2, hS4] at hcat
  rw [hS1] at hl1
  rw [hS2] at hl2
  rw [hS4]
  obtain ⟨S3, hS3⟩ : ∃ S, S1 ++ ⟨#[47]⟩ = S := ⟨_, rfl⟩
  have hl3 : S3.size ≤ 1001 := by rw [← hS3, ByteArray.size_append]; exact Nat.add_le_add hl1 (Nat.le_refl 1)
  have add1 : ∀ w', (Op.stringOp .add S1 ⟨#[47]⟩).run Tryz.prog w' = .ok (.string S3) w' := fun w' => by
    rw [run_string_add_sum w' S1 ⟨#[47]⟩ (by show S1.size + 1 ≤ _; omega), hS3]
  have add2 : ∀ w', (Op.stringOp .add S3 S2).run Tryz.prog w' = .ok (.string S4) w' := fun w' => by
    rw [run_string_add_sum w' S3 S2 (by omega), ← hcat, hS3]
  have HS1 := Lib.hid hS1; clear hS1
  have HS2 := Lib.hid hS2; clear hS2
  clear hS3 hS4 hcat hl1 hl2 hl3
  go_enter Tryz.func55, Tryz.ntmps55
  go_wp2_with fail
  obtain ⟨W0, hW, hbx, ka⟩ := fbox1 ha
  rw [← hW]
  clear hW ha
  have hT := hbx
  have a0 := ka.c0
  have a1 := ka.c1
  have a2 := ka.c2
  have a3 := ka.c3
  go_wp2_with fail
  clear a0 a1 a2 a3
  (with_reducible refine (rfright_yes _ ka.fv H1.out H2.out F1.out).mono ?_)
  rintro e u1 ⟨rfl, hb9⟩
  have hT := hT.trans (hb9.mono hT.size)
  have ka := ka.below hb9
  have e0 : ∀ W' : World, Below u1.heap.size u1 W' → W'.cell? ⟨w.heap.size, 0, none⟩ = some (.int .i64 s1) ∧ W'.cell? ⟨w.heap.size, 1, none⟩ = some (.slice A1 n1 d1) ∧ W'.cell? ⟨w.heap.size, 2, none⟩ = some (.int .i64 s2) ∧ W'.cell? ⟨w.heap.size, 3, none⟩ = some (.slice A2 n2 d2) ∧ Below u1.heap.size u1 W' := fun W' hW =>
    ⟨(ka.below hW).c0, (ka.below hW).c1, (ka.below hW).c2, (ka.below hW).c3, hW⟩
  have E0 := Lib.hid e0; clear e0
  have hB00 : Below u1.heap.size u1 u1.drew := (Below.refl _ _).drew
  have htx := fun w' (hb : Below u1.heap.size u1 w') => rtext4_any _ w' (ka.below hb).fv.a H1.out
  have hty := fun w' (hb : Below u1.heap.size u1 w') => rtext4_any _ w' (ka.below hb).fv.b H2.out
  rw [HS1.out] at htx
  rw [HS2.out] at hty
  have HTX := Lib.hid htx; clear htx
  have HTY := Lib.hid hty; clear hty
  have hTs := hT.size
  clear ka
  go_upto_region 3 with fail
  go_region_held3 (fun W' => W'.cell? ⟨w.heap.size, 0, none⟩ = some (.int .i64 s1) ∧ W'.cell? ⟨w.heap.size, 1, none⟩ = some (.slice A1 n1 d1) ∧ W'.cell? ⟨w.heap.size, 2, none⟩ = some (.int .i64 s2) ∧ W'.cell? ⟨w.heap.size, 3, none⟩ = some (.slice A2 n2 d2) ∧ Below u1.heap.size u1 W')
    (first | exact E0.out _ (by assumption) | exact E0.out _ ⟨rfl, rfl, rfl, Nat.le_refl _, fun _ _ => rfl⟩)
    (first
      | (go_at_call 28; have _h := hB4; refine (HTY.out _ hB4).mono ?_; rintro e x5 ⟨rfl, hb5⟩; have hB5 : Below u1.heap.size u1 x5 := hB4.trans (hb5.mono hB4.size))
      | (go_at_call 28; refine (HTX.out _ hB00).mono ?_; rintro e x4 ⟨rfl, hb4⟩; have hB4 : Below u1.heap.size u1 x4 := ⟨hb4.os, hb4.tape, hb4.output, hb4.size, hb4.block⟩))
  all_goals
    go_wp2_with fail
    go_ret
    exact ⟨rfl, hT.trans (hB5.mono hTs)⟩

set_option maxRecDepth 100000 in
set_option maxHeartbeats 4000000 in
theorem rftext_bad {s1 s2 : Int} {l1 l2 : List Int} {A1 A2 : Option Addr} {n1 d1 n2 d2 : Nat} (w : World) (h1 : Ar w s1 l1 A1 n1 d1) (h2 : Ar w s2 l2 A2 n2 d2) (hb : ¬ RF s1 l1 s2 l2) :
    Calls Tryz.prog 55 #[.agg #[.int .i64 s1, .slice A1 n1 d1, .int .i64 s2, .slice A2 n2 d2]] w fun e w' => e = .returned (.string ⟨#[]⟩) ∧ Below w.heap.size w w' := by
  have hB1 : Below w.heap.size w (w.alloc (.cells #[.int .i64 s1, .slice A1 n1 d1, .int .i64 s2, .slice A2 n2 d2] 43)) := (Below.refl _ _).alloc (Nat.le_refl _) _
  have hbk : Blk (w.alloc (.cells #[.int .i64 s1, .slice A1 n1 d1, .int .i64 s2, .slice A2 n2 d2] 43)) w.heap.size 43 #[.int .i64 s1, .slice A1 n1 d1, .int .i64 s2, .slice A2 n2 d2] := Blk.new _ _ _
  have hg := rfright_any _ (h1.later hB1) (h2.later hB1) false (by simp [hb])
  have HG := Lib.hid hg; clear hg h1 h2 hb
  go_enter Tryz.func55, Tryz.ntmps55
  go_wp2_with fail
  obtain ⟨W, hW⟩ : ∃ W, W = w.alloc (.cells #[.int .i64 s1, .slice A1 n1 d1, .int .i64 s2, .slice A2 n2 d2] 43) := ⟨_, rfl⟩
  rw [← hW] at hB1 hbk HG ⊢
  clear hW
  have f0 : W.cell? ⟨w.heap.size, 0, none⟩ = some (.int .i64 s1) := hbk.cell 0
  have f1 : W.cell? ⟨w.heap.size, 1, none⟩ = some (.slice A1 n1 d1) := hbk.cell 1
  have f2 : W.cell? ⟨w.heap.size, 2, none⟩ = some (.int .i64 s2) := hbk.cell 2
  have f3 : W.cell? ⟨w.heap.size, 3, none⟩ = some (.slice A2 n2 d2) := hbk.cell 3
  go_wp2_with fail
  clear f0 f1 f2 f3 hbk
  (with_reducible refine HG.out.mono ?_)
  rintro e u1 ⟨rfl, hb9⟩
  go_wp2_with fail
  go_ret
  exact ⟨rfl, hB1.trans (hb9.mono hB1.size)⟩

set_option maxRecDepth 100000 in
set_option maxHeartbeats 8000000 in
theorem ffloor_bad {s1 s2 : Int} {l1 l2 : List Int} {A1 A2 : Option Addr} {n1 d1 n2 d2 : Nat} (w : World) (h1 : Ar w s1 l1 A1 n1 d1) (h2 : Ar w s2 l2 A2 n2 d2) (hb : ¬ RF s1 l1 s2 l2) :
    Calls Tryz.prog 57 #[.agg #[.int .i64 s1, .slice A1 n1 d1, .int .i64 s2, .slice A2 n2 d2]] w fun e w' => e = .returned (.agg #[.int .i64 0, .slice none 0 0]) ∧ Below w.heap.size w w' := by
  have H1 := Lib.hid h1; clear h1
  have H2 := Lib.hid h2; clear h2
  go_enter Tryz.func57, Tryz.ntmps57
  go_wp2_with fail
  obtain ⟨Wf, hWf⟩ : ∃ W, W = w.alloc (.cells #[.int .i64 s1, .slice A1 n1 d1, .int .i64 s2, .slice A2 n2 d2] 43) := ⟨_, rfl⟩
  have hbx : Below w.heap.size w Wf := by rw [hWf]; exact (Below.refl _ _).alloc (Nat.le_refl _) _
  have ka : Blk Wf w.heap.size 43 #[.int .i64 s1, .slice A1 n1 d1, .int .i64 s2, .slice A2 n2 d2] := by rw [hWf]; exact Blk.new _ _ _
  have hsz : Wf.heap.size = w.heap.size + 1 := by rw [hWf]; simp
  rw [← hWf]
  clear hWf
  have hT := hbx.alloc hbx.size (.cells #[.int .i64 0, .slice none 0 0] 24)
  have kA := ka.alloc (.cells #[.int .i64 0, .slice none 0 0] 24)
  have kR : Blk (Wf.alloc (.cells #[.int .i64 0, .slice none 0 0] 24)) Wf.heap.size 24 #[.int .i64 0, .slice none 0 0] := Blk.new _ _ _
  rw [hsz] at kR
  clear hsz ka hbx
  have hg : w.heap.size ≤ w.heap.size + 1 := by omega
  obtain ⟨W0, hW⟩ : ∃ W, W = Wf.alloc (.cells #[.int .i64 0, .slice none 0 0] 24) := ⟨_, rfl⟩
  rw [← hW] at hT kA kR ⊢
  clear hW
  have HG := Lib.hid hg; clear hg
  have a0 : W0.cell? ⟨w.heap.size, 0, none⟩ = some (.int .i64 s1) := kA.cell 0
  have a1 : W0.cell? ⟨w.heap.size, 1, none⟩ = some (.slice A1 n1 d1) := kA.cell 1
  have a2 : W0.cell? ⟨w.heap.size, 2, none⟩ = some (.int .i64 s2) := kA.cell 2
  have a3 : W0.cell? ⟨w.heap.size, 3, none⟩ = some (.slice A2 n2 d2) := kA.cell 3
  go_wp2_with fail
  clear a0 a1 a2 a3 kA
  (with_reducible refine (fright_any _ (H1.out.later hT) (H2.out.later hT) false (by simp [hb])).mono ?_)
  rintro e u1 ⟨rfl, hb9⟩
  have hT := hT.trans (hb9.mono hT.size)
  have kR := kR.below hb9 kR.lt
  have r0 := kR.cell 0
  have r1 := kR.cell 1
  have f0 := kR.frozen 0
  have f1 := kR.frozen 1
  simp at r0 r1
  have hbs := kR.set2 (.int .i64 0) (.slice none 0 0)
  have x0 := hbs.cell 0
  have x1 := hbs.cell 1
  simp at x0 x1
  go_wp2_with fail
  refine bodyPost_ret (v := .agg #[.int .i64 0, .slice none 0 0]) (by simp [results, Tryz.results57, go_sem, x0, x1]) rfl ?_
  exact ⟨rfl, below_st hT HG.out _ _⟩

set_option maxRecDepth 100000 in
set_option maxHeartbeats 8000000 in
theorem rffloor_bad {s1 s2 : Int} {l1 l2 : List Int} {A1 A2 : Option Addr} {n1 d1 n2 d2 : Nat} (w : World) (h1 : Ar w s1 l1 A1 n1 d1) (h2 : Ar w s2 l2 A2 n2 d2) (hb : ¬ RF s1 l1 s2 l2) :
    Calls Tryz.prog 58 #[.agg #[.int .i64 s1, .slice A1 n1 d1, .int .i64 s2, .slice A2 n2 d2]] w fun e w' => e = .returned (.agg #[.int .i64 0, .slice none 0 0]) ∧ Below w.heap.size w w' := by
  have H1 := Lib.hid h1; clear h1
  have H2 := Lib.hid h2; clear h2
  go_enter Tryz.func58, Tryz.ntmps58
  go_wp2_with fail
  obtain ⟨Wf, hWf⟩ : ∃ W, W = w.alloc (.cells #[.int .i64 s1, .slice A1 n1 d1, .int .i64 s2, .slice A2 n2 d2] 43) := ⟨_, rfl⟩
  have hbx : Below w.heap.size w Wf := by rw [hWf]; exact (Below.refl _ _).alloc (Nat.le_refl _) _
  have ka : Blk Wf w.heap.size 43 #[.int .i64 s1, .slice A1 n1 d1, .int .i64 s2, .slice A2 n2 d2] := by rw [hWf]; exact Blk.new _ _ _
  have hsz : Wf.heap.size = w.heap.size + 1 := by rw [hWf]; simp
  rw [← hWf]
  clear hWf
  have hT := hbx.alloc hbx.size (.cells #[.int .i64 0, .slice none 0 0] 24)
  have kA := ka.alloc (.cells #[.int .i64 0, .slice none 0 0] 24)
  have kR : Blk (Wf.alloc (.cells #[.int .i64 0, .slice none 0 0] 24)) Wf.heap.size 24 #[.int .i64 0, .slice none 0 0] := Blk.new _ _ _
  rw [hsz] at kR
  clear hsz ka hbx
  have hg : w.heap.size ≤ w.heap.size + 1 := by omega
  obtain ⟨W0, hW⟩ : ∃ W, W = Wf.alloc (.cells #[.int .i64 0, .slice none 0 0] 24) := ⟨_, rfl⟩
  rw [← hW] at hT kA kR ⊢
  clear hW
  have HG := Lib.hid hg; clear hg
  have a0 : W0.cell? ⟨w.heap.size, 0, none⟩ = some (.int .i64 s1) := kA.cell 0
  have a1 : W0.cell? ⟨w.heap.size, 1, none⟩ = some (.slice A1 n1 d1) := kA.cell 1
  have a2 : W0.cell? ⟨w.heap.size, 2, none⟩ = some (.int .i64 s2) := kA.cell 2
  have a3 : W0.cell? ⟨w.heap.size, 3, none⟩ = some (.slice A2 n2 d2) := kA.cell 3
  go_wp2_with fail
  clear a0 a1 a2 a3 kA
  (with_reducible refine (rfright_any _ (H1.out.later hT) (H2.out.later hT) false (by simp [hb])).mono ?_)
  rintro e u1 ⟨rfl, hb9⟩
  have hT := hT.trans (hb9.mono hT.size)
  have kR := kR.below hb9 kR.lt
  have r0 := kR.cell 0
  have r1 := kR.cell 1
  have f0 := kR.frozen 0
  have f1 := kR.frozen 1
  simp at r0 r1
  have hbs := kR.set2 (.int .i64 0) (.slice none 0 0)
  have x0 := hbs.cell 0
  have x1 := hbs.cell 1
  simp at x0 x1
  go_wp2_with fail
  refine bodyPost_ret (v := .agg #[.int .i64 0, .slice none 0 0]) (by simp [results, Tryz.results58, go_sem, x0, x1]) rfl ?_
  exact ⟨rfl, below_st hT HG.out _ _⟩

set_option maxRecDepth 100000 in
set_option maxHeartbeats 8000000 in
theorem new_bad {s1 s2 : Int} {l1 l2 : List Int} {A1 A2 : Option Addr} {n1 d1 n2 d2 : Nat} (w : World) (h1 : Ar w s1 l1 A1 n1 d1) (h2 : Ar w s2 l2 A2 n2 d2) (hb : ¬ (RightP s1 l1 ∧ RightP s2 l2)) :
    Calls Tryz.prog 48 #[.agg #[.int .i64 s1, .slice A1 n1 d1], .agg #[.int .i64 s2, .slice A2 n2 d2]] w fun e w' => e = .returned (.tuple #[.agg #[.int .i64 0, .slice none 0 0, .int .i64 0, .slice none 0 0], .int .i64 1]) ∧ Below w.heap.size w w' := by
  have H1 := Lib.hid h1
  have H2 := Lib.hid h2
  go_enter Tryz.func48, Tryz.ntmps48
  go_wp2_with fail
  obtain ⟨W1, hW1, hbx1, k1, k2⟩ := abox2 h1 h2
  obtain ⟨W0, hW⟩ : ∃ W, W = W1.alloc (.cells #[.int .i64 0, .slice none 0 0, .int .i64 0, .slice none 0 0] 43) := ⟨_, rfl⟩
  have hs : W1.heap.size = w.heap.size + 1 + 1 := by rw [hW1]; simp
  have hT : Below w.heap.size w W0 := by rw [hW]; exact hbx1.alloc hbx1.size _
  have ha1 : Blk W0 w.heap.size 24 #[.int .i64 s1, .slice A1 n1 d1] := by rw [hW]; exact k1.blk.alloc _
  have ha2 : Blk W0 (w.heap.size + 1) 24 #[.int .i64 s2, .slice A2 n2 d2] := by rw [hW]; exact k2.blk.alloc _
  have hkR : Blk W0 (w.heap.size + 1 + 1) 43 #[.int .i64 0, .slice none 0 0, .int .i64 0, .slice none 0 0] := by rw [hW, ← hs]; exact Blk.new _ _ _
  rw [hW1] at hW
  rw [← hW]
  clear hW hW1 k1 k2 hbx1 h1 h2 hs
  have p0 : W0.cell? ⟨w.heap.size, 0, none⟩ = some (.int .i64 s1) := ha1.cell 0
  have p1 : W0.cell? ⟨w.heap.size, 1, none⟩ = some (.slice A1 n1 d1) := ha1.cell 1
  have p2 : W0.cell? ⟨w.heap.size + 1, 0, none⟩ = some (.int .i64 s2) := ha2.cell 0
  have p3 : W0.cell? ⟨w.heap.size + 1, 1, none⟩ = some (.slice A2 n2 d2) := ha2.cell 1
  go_wp2_with fail
  clear p0 p1 p2 p3
  (with_reducible refine (gcd_bad (H1.out.later hT) (H2.out.later hT) hb).mono ?_)
  rintro e u1 ⟨rfl, hb9⟩
  replace hT := hT.trans (hb9.mono hT.size)
  replace hkR := hkR.below hb9 hkR.lt
  have hT := hT.alloc hT.size (.cells #[.int .i64 0, .slice none 0 0] 24)
  have hkR := hkR.alloc (.cells #[.int .i64 0, .slice none 0 0] 24)
  have r0 := hkR.cell 0
  have r1 := hkR.cell 1
  have r2 := hkR.cell 2
  have r3 := hkR.cell 3
  have q0' := hkR.frozen 0
  have q1' := hkR.frozen 1
  have q2' := hkR.frozen 2
  have q3' := hkR.frozen 3
  simp at r0 r1 r2 r3
  have hbs := hkR.set4 (.int .i64 0) (.slice none 0 0) (.int .i64 0) (.slice none 0 0)
  have x0 := hbs.cell 0
  have x1 := hbs.cell 1
  have x2 := hbs.cell 2
  have x3 := hbs.cell 3
  simp at x0 x1 x2 x3
  have gR : w.heap.size ≤ w.heap.size + 1 + 1 := by omega
  go_wp2_with fail
  refine bodyPost_ret (v := .tuple #[.agg #[.int .i64 0, .slice none 0 0, .int .i64 0, .slice none 0 0], .int .i64 1]) (by simp [results, Tryz.results48, go_sem, x0, x1, x2, x3]) rfl ?_
  exact ⟨rfl, below_st4 hT gR _ _ _ _⟩

end Go.Proofs.YtkjpfnbdlbnbkaaGreatDoor

namespace Go.Proofs.YtkjpfnbdlbnbkaaGreatDoor
open Go.RowKit

theorem pre47 (b : UInt8) (l : List UInt8) : [47].isPrefixOf (b :: l) = (47 == b) := by simp [List.isPrefixOf]
theorem index47_none {s : List UInt8} (h : (47 : UInt8) ∉ s) : Lib.index s [47] = -1 := by
  induction s with
  | nil => rfl
  | cons b l ih =>
    rw [List.mem_cons, not_or] at h
    unfold Lib.index
    rw [pre47, beq_eq_false_iff_ne.2 h.1, ih h.2]
    rfl
theorem index47 {a : List UInt8} (h : (47 : UInt8) ∉ a) (b : List UInt8) : Lib.index (a ++ 47 :: b) [47] = a.length := by
  induction a with
  | nil => unfold Lib.index; rw [List.nil_append]; simp
  | cons c l ih =>
    rw [List.mem_cons, not_or] at h
    rw [List.cons_append]
    unfold Lib.index
    rw [pre47, beq_eq_false_iff_ne.2 h.1, ih h.2, beq_eq_false_iff_ne.2 (show (l.length : Int) ≠ -1 by omega)]
    simp
theorem cut47_none {s : List UInt8} (h : (47 : UInt8) ∉ s) : Lib.cut s [47] = (s, [], false) := by
  unfold Lib.cut; rw [index47_none h, if_neg (by decide)]
theorem cut47 {a : List UInt8} (h : (47 : UInt8) ∉ a) (b : List UInt8) : Lib.cut (a ++ 47 :: b) [47] = (a, b, true) := by
  unfold Lib.cut; rw [index47 h, if_pos (by omega)]; simp
theorem split47 (s : List UInt8) : (47 : UInt8) ∉ s ∨ ∃ a b, (47 : UInt8) ∉ a ∧ s = a ++ 47 :: b := by
  induction s with
  | nil => exact .inl (by simp)
  | cons c l ih =>
    by_cases hc : c = 47
    · subst hc; exact .inr ⟨[], l, by simp, rfl⟩
    · rcases ih with h | ⟨a, b, h, rfl⟩
      · exact .inl (by rw [List.mem_cons, not_or]; exact ⟨fun e => hc e.symm, h⟩)
      · exact .inr ⟨c :: a, b, by rw [List.mem_cons, not_or]; exact ⟨fun e => hc e.symm, h⟩, rfl⟩
theorem itoa47 (z : Int) : (47 : UInt8) ∉ Lib.itoa z := by
  rw [itoa_ab]
  intro h
  rcases List.mem_append.1 h with h | h
  · split at h <;> simp at h
  · have := dd_all (ab z).toNat 47 h
    unfold isD at this
    exact absurd this.1 (by decide)
theorem itoa_ne (z : Int) : Lib.itoa z ≠ [] := by
  rw [itoa_ab]
  intro h
  exact dd_ne (ab z).toNat (List.append_eq_nil_iff.1 h).2
/-- The text of a fraction. -/
def ftx (x : Rat) : List UInt8 := Lib.itoa x.num ++ 47 :: Lib.itoa x.den
theorem ftx_cut (x : Rat) : Lib.cut (ftx x) [47] = (Lib.itoa x.num, Lib.itoa x.den, true) := cut47 (itoa47 _) _
/-- A string is the text of the fraction that its parts give, or of none. -/
theorem ftx_of {s : List UInt8} {x : Rat} (h1 : (Lib.cut s [47]).1 = Lib.itoa x.num) (h2 : (Lib.cut s [47]).2.1 = Lib.itoa x.den) : s = ftx x := by
  rcases split47 s with h | ⟨a, b, ha, rfl⟩
  · rw [cut47_none h] at h2
    exact absurd h2.symm (itoa_ne _)
  · rw [cut47 ha] at h1 h2
    simp only at h1 h2
    unfold ftx
    rw [h1, h2]
theorem ftx_inj {x y : Rat} (h : ftx x = ftx y) : x = y := by
  have h1 := ftx_cut x
  rw [h, ftx_cut y] at h1
  simp only [Prod.mk.injEq, and_true] at h1
  exact Rat.ext (itoa_inj h1.1.symm) (by have := itoa_inj h1.2; omega)

end Go.Proofs.YtkjpfnbdlbnbkaaGreatDoor
