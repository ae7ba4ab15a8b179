/- Walks: the law's head. Walks: Add, Sub. What the law on ints needs in plain. -/
import Derived.Test.YtbhdkgieahnojaaGreatDoorXak
import Derived.Test.YtbhdkgieahnojaaGreatDoorXai

namespace Go.Proofs.YtbhdkgieahnojaaGreatDoor
open Go.RowKit

theorem box1v {w : World} {s : Int} {A : Option Addr} {n c : Nat} {z : Int} (h : BV w w.heap.size (.agg #[.int .i64 s, .slice A n c]) z) : ∃ W, W = w.alloc (.cells #[.int .i64 s, .slice A n c] 24) ∧ Below w.heap.size w W ∧ Bx W w.heap.size s A n c z := by
  have hb : Below w.heap.size w (w.alloc (.cells #[.int .i64 s, .slice A n c] 24)) := (Below.refl _ _).alloc (Nat.le_refl _) _
  exact ⟨_, rfl, hb, Blk.new _ _ _, h.later hb⟩

set_option maxRecDepth 100000 in
set_option maxHeartbeats 8000000 in
theorem small_any (w : World) (ht : TB w) :
    Calls Tryz.prog 9 #[] w fun e w' => e = .returned (.bool true) ∧ Below w.heap.size w w' := by
  have HT := Lib.hid ht; clear ht
  go_enter Tryz.func9, Tryz.ntmps9
  go_wp2_with fail
  (with_reducible refine (of_any _ _ (by omega) (by omega)).mono ?_)
  rintro e u1 ⟨r1, rfl, hr1, hb1⟩
  have hT := hb1
  obtain ⟨s1, A1, n1, c1, rfl⟩ := hr1.form
  go_wp2_with fail
  obtain ⟨Wx, hW, hbx, kx⟩ := box1 hr1
  rw [← hW]
  clear hW
  have hG := hbx.size
  have hT := hT.trans (hbx.mono hT.size)
  (with_reducible refine (of_any _ _ (by omega) (by omega)).mono ?_)
  rintro e u2 ⟨r2, rfl, hr2, hb2⟩
  have hT := hT.trans (hb2.mono hT.size)
  have kx := kx.below hb2
  go_wp2_with fail
  (with_reducible refine (of_any _ _ (by omega) (by omega)).mono ?_)
  rintro e u3 ⟨r3, rfl, hr3, hb3⟩
  have hT := hT.trans (hb3.mono hT.size)
  have kx := kx.below hb3
  go_wp2_with fail
  (with_reducible refine (mul_any _ _ _ _ _ (hr2.bv.later hb3) hr3.bv (lt60 (by decide)) (lt60 (by decide))).mono ?_)
  rintro e u4 ⟨r4, rfl, hr4, hb4⟩
  have hT := hT.trans (hb4.mono hT.size)
  have kx := kx.below hb4
  rw [show fite (-99999999999 * 99999999999) = 0 from if_pos (lt60 (by decide))]
  rw [show fitz (-99999999999 * 99999999999) = -9999999999800000000001 from if_pos (lt60 (by decide))] at hr4
  obtain ⟨s4, A4, n4, c4, rfl⟩ := hr4.form
  go_wp2_with fail
  obtain ⟨Wp, hW, hbx, kp⟩ := box1 hr4
  rw [← hW]
  clear hW
  have hG := hbx.size
  have hT := hT.trans (hbx.mono hT.size)
  have kx := kx.below hbx
  -- div -7 2
  (with_reducible refine (of_any _ _ (by omega) (by omega)).mono ?_)
  rintro e u5 ⟨r5, rfl, hr5, hb5⟩
  have hT := hT.trans (hb5.mono hT.size)
  have kx := kx.below hb5
  have kp := kp.below hb5
  go_wp2_with fail
  (with_reducible refine (of_any _ _ (by omega) (by omega)).mono ?_)
  rintro e u6 ⟨r6, rfl, hr6, hb6⟩
  have hT := hT.trans (hb6.mono hT.size)
  have kx := kx.below hb6
  have kp := kp.below hb6
  go_wp2_with fail
  (with_reducible refine (div_any _ _ _ _ _ (hr5.bv.later hb6) hr6.bv (lt60 (by decide)) (lt60 (by decide)) (by omega)).mono ?_)
  rintro e u7 ⟨r7, r8, q, r, rfl, hr7, hr8, hqr, hb7⟩
  have hT := hT.trans (hb7.mono hT.size)
  have kx := kx.below hb7
  have kp := kp.below hb7
  obtain ⟨rfl, rfl⟩ := qr1 hqr
  clear hqr
  obtain ⟨s7, A7, n7, c7, rfl⟩ := hr7.form
  obtain ⟨s8, A8, n8, c8, rfl⟩ := hr8.form
  go_wp2_with fail
  obtain ⟨Wab, hW, hbx, ka, kb⟩ := box2 hr7 hr8
  rw [← hW]
  clear hW
  have hT := hT.trans (hbx.mono hT.size)
  have kx := kx.below hbx
  have kp := kp.below hbx
  -- div 7 -2
  (with_reducible refine (of_any _ _ (by omega) (by omega)).mono ?_)
  rintro e u9 ⟨r9, rfl, hr9, hb9⟩
  have hT := hT.trans (hb9.mono hT.size)
  have kx := kx.below hb9
  have kp := kp.below hb9
  have ka := ka.below hb9
  have kb := kb.below hb9
  go_wp2_with fail
  (with_reducible refine (of_any _ _ (by omega) (by omega)).mono ?_)
  rintro e u10 ⟨r10, rfl, hr10, hb10⟩
  have hT := hT.trans (hb10.mono hT.size)
  have kx := kx.below hb10
  have kp := kp.below hb10
  have ka := ka.below hb10
  have kb := kb.below hb10
  go_wp2_with fail
  (with_reducible refine (div_any _ _ _ _ _ (hr9.bv.later hb10) hr10.bv (lt60 (by decide)) (lt60 (by decide)) (by omega)).mono ?_)
  rintro e u11 ⟨r11, r12, q, r, rfl, hr11, hr12, hqr, hb11⟩
  have hT := hT.trans (hb11.mono hT.size)
  have kx := kx.below hb11
  have kp := kp.below hb11
  have ka := ka.below hb11
  have kb := kb.below hb11
  obtain ⟨rfl, rfl⟩ := qr2 hqr
  clear hqr
  obtain ⟨s11, A11, n11, c11, rfl⟩ := hr11.form
  obtain ⟨s12, A12, n12, c12, rfl⟩ := hr12.form
  go_wp2_with fail
  obtain ⟨Wcd, hW, hbx, kc, kd⟩ := box2 hr11 hr12
  rw [← hW]
  clear hW
  have hT := hT.trans (hbx.mono hT.size)
  have kx := kx.below hbx
  have kp := kp.below hbx
  have ka := ka.below hbx
  have kb := kb.below hbx
  -- div -7 -2
  (with_reducible refine (of_any _ _ (by omega) (by omega)).mono ?_)
  rintro e u13 ⟨r13, rfl, hr13, hb13⟩
  have hT := hT.trans (hb13.mono hT.size)
  have kx := kx.below hb13
  have kp := kp.below hb13
  have ka := ka.below hb13
  have kb := kb.below hb13
  have kc := kc.below hb13
  have kd := kd.below hb13
  go_wp2_with fail
  (with_reducible refine (of_any _ _ (by omega) (by omega)).mono ?_)
  rintro e u14 ⟨r14, rfl, hr14, hb14⟩
  have hT := hT.trans (hb14.mono hT.size)
  have kx := kx.below hb14
  have kp := kp.below hb14
  have ka := ka.below hb14
  have kb := kb.below hb14
  have kc := kc.below hb14
  have kd := kd.below hb14
  go_wp2_with fail
  (with_reducible refine (div_any _ _ _ _ _ (hr13.bv.later hb14) hr14.bv (lt60 (by decide)) (lt60 (by decide)) (by omega)).mono ?_)
  rintro e u15 ⟨r15, r16, q, r, rfl, hr15, hr16, hqr, hb15⟩
  have hT := hT.trans (hb15.mono hT.size)
  have kx := kx.below hb15
  have kp := kp.below hb15
  have ka := ka.below hb15
  have kb := kb.below hb15
  have kc := kc.below hb15
  have kd := kd.below hb15
  obtain ⟨rfl, rfl⟩ := qr3 hqr
  clear hqr
  obtain ⟨s15, A15, n15, c15, rfl⟩ := hr15.form
  obtain ⟨s16, A16, n16, c16, rfl⟩ := hr16.form
  go_wp2_with fail
  obtain ⟨Wij, hW, hbx, ki, kj⟩ := box2 hr15 hr16
  rw [← hW]
  clear hW
  have hT := hT.trans (hbx.mono hT.size)
  have kx := kx.below hbx
  have kp := kp.below hbx
  have ka := ka.below hbx
  have kb := kb.below hbx
  have kc := kc.below hbx
  have kd := kd.below hbx
  (with_reducible refine (of_any _ _ (by omega) (by omega)).mono ?_)
  rintro e u17 ⟨r17, rfl, hr17, hb17⟩
  have hT := hT.trans (hb17.mono hT.size)
  have kx := kx.below hb17
  have kp := kp.below hb17
  have ka := ka.below hb17
  have kb := kb.below hb17
  have kc := kc.below hb17
  have kd := kd.below hb17
  have ki := ki.below hb17
  have kj := kj.below hb17
  go_wp2_with fail
  (with_reducible refine (of_any _ _ (by omega) (by omega)).mono ?_)
  rintro e u18 ⟨r18, rfl, hr18, hb18⟩
  have hT := hT.trans (hb18.mono hT.size)
  have kx := kx.below hb18
  have kp := kp.below hb18
  have ka := ka.below hb18
  have kb := kb.below hb18
  have kc := kc.below hb18
  have kd := kd.below hb18
  have ki := ki.below hb18
  have kj := kj.below hb18
  go_wp2_with fail
  (with_reducible refine (gcd_any _ _ _ _ _ (hr17.bv.later hb18) hr18.bv (lt60 (by decide)) (lt60 (by decide))).mono ?_)
  rintro e u19 ⟨r19, rfl, hr19, hb19⟩
  have hT := hT.trans (hb19.mono hT.size)
  have kx := kx.below hb19
  have kp := kp.below hb19
  have ka := ka.below hb19
  have kb := kb.below hb19
  have kc := kc.below hb19
  have kd := kd.below hb19
  have ki := ki.below hb19
  have kj := kj.below hb19
  rw [show ((Int.gcd (-12) (18) : Nat) : Int) = 6 from by decide] at hr19
  obtain ⟨s19, A19, n19, c19, rfl⟩ := hr19.form
  go_wp2_with fail
  obtain ⟨Wk, hW, hbx, kk⟩ := box1 hr19
  rw [← hW]
  clear hW
  have hG := hbx.size
  have hT := hT.trans (hbx.mono hT.size)
  have kx := kx.below hbx
  have kp := kp.below hbx
  have ka := ka.below hbx
  have kb := kb.below hbx
  have kc := kc.below hbx
  have kd := kd.below hbx
  have ki := ki.below hbx
  have kj := kj.below hbx
  (with_reducible refine (of_any _ _ (by omega) (by omega)).mono ?_)
  rintro e u20 ⟨r20, rfl, hr20, hb20⟩
  have hT := hT.trans (hb20.mono hT.size)
  have kx := kx.below hb20
  have kp := kp.below hb20
  have ka := ka.below hb20
  have kb := kb.below hb20
  have kc := kc.below hb20
  have kd := kd.below hb20
  have ki := ki.below hb20
  have kj := kj.below hb20
  have kk := kk.below hb20
  go_wp2_with fail
  (with_reducible refine (of_any _ _ (by omega) (by omega)).mono ?_)
  rintro e u21 ⟨r21, rfl, hr21, hb21⟩
  have hT := hT.trans (hb21.mono hT.size)
  have kx := kx.below hb21
  have kp := kp.below hb21
  have ka := ka.below hb21
  have kb := kb.below hb21
  have kc := kc.below hb21
  have kd := kd.below hb21
  have ki := ki.below hb21
  have kj := kj.below hb21
  have kk := kk.below hb21
  go_wp2_with fail
  (with_reducible refine (gcd_any _ _ _ _ _ (hr20.bv.later hb21) hr21.bv (lt60 (by decide)) (lt60 (by decide))).mono ?_)
  rintro e u22 ⟨r22, rfl, hr22, hb22⟩
  have hT := hT.trans (hb22.mono hT.size)
  have kx := kx.below hb22
  have kp := kp.below hb22
  have ka := ka.below hb22
  have kb := kb.below hb22
  have kc := kc.below hb22
  have kd := kd.below hb22
  have ki := ki.below hb22
  have kj := kj.below hb22
  have kk := kk.below hb22
  rw [show ((Int.gcd (0) (-5) : Nat) : Int) = 5 from by decide] at hr22
  obtain ⟨s22, A22, n22, c22, rfl⟩ := hr22.form
  go_wp2_with fail
  obtain ⟨Wm, hW, hbx, km⟩ := box1 hr22
  rw [← hW]
  clear hW
  have hG := hbx.size
  have hT := hT.trans (hbx.mono hT.size)
  have kx := kx.below hbx
  have kp := kp.below hbx
  have ka := ka.below hbx
  have kb := kb.below hbx
  have kc := kc.below hbx
  have kd := kd.below hbx
  have ki := ki.below hbx
  have kj := kj.below hbx
  have kk := kk.below hbx
  (with_reducible refine (read_bad _ _ no007 (by decide)).mono ?_)
  rintro e u23 ⟨r23, rfl, hr23, hb23⟩
  have hT := hT.trans (hb23.mono hT.size)
  have kx := kx.below hb23
  have kp := kp.below hb23
  have ka := ka.below hb23
  have kb := kb.below hb23
  have kc := kc.below hb23
  have kd := kd.below hb23
  have ki := ki.below hb23
  have kj := kj.below hb23
  have kk := kk.below hb23
  have km := km.below hb23
  obtain ⟨s23, A23, n23, c23, rfl⟩ := hr23.form
  go_wp2_with fail
  obtain ⟨Wo, hW, hbx, ko⟩ := box1 hr23
  rw [← hW]
  clear hW
  have hG := hbx.size
  have hT := hT.trans (hbx.mono hT.size)
  have kx := kx.below hbx
  have kp := kp.below hbx
  have ka := ka.below hbx
  have kb := kb.below hbx
  have kc := kc.below hbx
  have kd := kd.below hbx
  have ki := ki.below hbx
  have kj := kj.below hbx
  have kk := kk.below hbx
  have km := km.below hbx
  (with_reducible refine (read_bad _ _ noM0 (by decide)).mono ?_)
  rintro e u24 ⟨r24, rfl, hr24, hb24⟩
  have hT := hT.trans (hb24.mono hT.size)
  have kx := kx.below hb24
  have kp := kp.below hb24
  have ka := ka.below hb24
  have kb := kb.below hb24
  have kc := kc.below hb24
  have kd := kd.below hb24
  have ki := ki.below hb24
  have kj := kj.below hb24
  have kk := kk.below hb24
  have km := km.below hb24
  have ko := ko.below hb24
  obtain ⟨s24, A24, n24, c24, rfl⟩ := hr24.form
  go_wp2_with fail
  obtain ⟨Wq, hW, hbx, kq⟩ := box1 hr24
  rw [← hW]
  clear hW
  have hG := hbx.size
  have hT := hT.trans (hbx.mono hT.size)
  have kx := kx.below hbx
  have kp := kp.below hbx
  have ka := ka.below hbx
  have kb := kb.below hbx
  have kc := kc.below hbx
  have kd := kd.below hbx
  have ki := ki.below hbx
  have kj := kj.below hbx
  have kk := kk.below hbx
  have km := km.below hbx
  have ko := ko.below hbx
  (with_reducible refine (read_bad _ _ noE (by decide)).mono ?_)
  rintro e u25 ⟨r25, rfl, hr25, hb25⟩
  have hT := hT.trans (hb25.mono hT.size)
  have kx := kx.below hb25
  have kp := kp.below hb25
  have ka := ka.below hb25
  have kb := kb.below hb25
  have kc := kc.below hb25
  have kd := kd.below hb25
  have ki := ki.below hb25
  have kj := kj.below hb25
  have kk := kk.below hb25
  have km := km.below hb25
  have ko := ko.below hb25
  have kq := kq.below hb25
  obtain ⟨s25, A25, n25, c25, rfl⟩ := hr25.form
  go_wp2_with fail
  obtain ⟨Wr, hW, hbx, kr⟩ := box1 hr25
  have hsz : Wr.heap.size = u25.heap.size + 1 := by rw [hW]; simp
  rw [← hW]
  clear hW
  have hG := hbx.size
  have hT := hT.trans (hbx.mono hT.size)
  have kx := kx.below hbx
  have kp := kp.below hbx
  have ka := ka.below hbx
  have kb := kb.below hbx
  have kc := kc.below hbx
  have kd := kd.below hbx
  have ki := ki.below hbx
  have kj := kj.below hbx
  have kk := kk.below hbx
  have km := km.below hbx
  have ko := ko.below hbx
  have kq := kq.below hbx
  rw [← hsz]
  have hl := lit_bv (w := Wr) (l := [0, 0, 0, 8]) (z := 9223372036854775808) (n := 4) (by omega) D_two rfl (by omega)
  simp only [List.map_cons, List.map_nil] at hl
  obtain ⟨L, hL⟩ : ∃ L, Wr.alloc (.cells #[.int .i64 0, .int .i64 0, .int .i64 0, .int .i64 8] 3) = L := ⟨_, rfl⟩
  rw [hL] at hl ⊢
  have hbL : Below Wr.heap.size Wr L := by rw [← hL]; exact (Below.refl _ _).alloc (Nat.le_refl _) _
  have hszL : L.heap.size = Wr.heap.size + 1 := by rw [← hL]; simp
  clear hL hsz
  have hT := hT.trans (hbL.mono hT.size)
  have kx := kx.below hbL
  have kp := kp.below hbL
  have ka := ka.below hbL
  have kb := kb.below hbL
  have kc := kc.below hbL
  have kd := kd.below hbL
  have ki := ki.below hbL
  have kj := kj.below hbL
  have kk := kk.below hbL
  have km := km.below hbL
  have ko := ko.below hbL
  have kq := kq.below hbL
  have kr := kr.below hbL
  rw [← hszL]
  clear hszL
  obtain ⟨Wt, hW, hbx, kt⟩ := box1v hl
  rw [← hW]
  clear hW hl
  have hT := hT.trans (hbx.mono hT.size)
  have kx := kx.below hbx
  have kp := kp.below hbx
  have ka := ka.below hbx
  have kb := kb.below hbx
  have kc := kc.below hbx
  have kd := kd.below hbx
  have ki := ki.below hbx
  have kj := kj.below hbx
  have kk := kk.below hbx
  have km := km.below hbx
  have ko := ko.below hbx
  have kq := kq.below hbx
  have kr := kr.below hbx
  (with_reducible refine (int_any 9223372036854775808 _ _ kt.bv (lt60 (by decide))).mono ?_)
  rintro e u30 ⟨rfl, hb30⟩
  have hT := hT.trans (hb30.mono hT.size)
  have kx := kx.below hb30
  have kp := kp.below hb30
  have ka := ka.below hb30
  have kb := kb.below hb30
  have kc := kc.below hb30
  have kd := kd.below hb30
  have ki := ki.below hb30
  have kj := kj.below hb30
  have kk := kk.below hb30
  have km := km.below hb30
  have ko := ko.below hb30
  have kq := kq.below hb30
  have kr := kr.below hb30
  have kt := kt.below hb30
  rw [show IntV 9223372036854775808 = .tuple #[.int .i64 0, .bool false] from IntV.no (by unfold isI; omega)]
  have kt0 := kt.c0
  have kt1 := kt.c1
  go_wp2_with fail
  clear kt0 kt1
  (with_reducible refine (neg_any 9223372036854775808 _ _ kt.bv (lt60 (by decide))).mono ?_)
  rintro e u31 ⟨r31, rfl, hr31, hb31⟩
  have hT := hT.trans (hb31.mono hT.size)
  have kx := kx.below hb31
  have kp := kp.below hb31
  have ka := ka.below hb31
  have kb := kb.below hb31
  have kc := kc.below hb31
  have kd := kd.below hb31
  have ki := ki.below hb31
  have kj := kj.below hb31
  have kk := kk.below hb31
  have km := km.below hb31
  have ko := ko.below hb31
  have kq := kq.below hb31
  have kr := kr.below hb31
  have kt := kt.below hb31
  go_wp2_with fail
  (with_reducible refine (int_any (-9223372036854775808) _ _ hr31.bv (lt60 (by decide))).mono ?_)
  rintro e u32 ⟨rfl, hb32⟩
  have hT := hT.trans (hb32.mono hT.size)
  have kx := kx.below hb32
  have kp := kp.below hb32
  have ka := ka.below hb32
  have kb := kb.below hb32
  have kc := kc.below hb32
  have kd := kd.below hb32
  have ki := ki.below hb32
  have kj := kj.below hb32
  have kk := kk.below hb32
  have km := km.below hb32
  have ko := ko.below hb32
  have kq := kq.below hb32
  have kr := kr.below hb32
  have kt := kt.below hb32
  rw [show IntV (-9223372036854775808) = .tuple #[.int .i64 (-9223372036854775808), .bool true] from IntV.yes (by unfold isI; omega)]
  have kx0 := kx.c0
  have kx1 := kx.c1
  go_wp2_with fail
  clear kx0 kx1
  have hl := lit_bv (w := u32) (l := [1, 1]) (z := 1048577) (n := 2) (by omega) D_x rfl (by omega)
  simp only [List.map_cons, List.map_nil] at hl
  obtain ⟨L2, hL⟩ : ∃ L, u32.alloc (.cells #[.int .i64 1, .int .i64 1] 3) = L := ⟨_, rfl⟩
  rw [hL] at hl ⊢
  have hbL : Below u32.heap.size u32 L2 := by rw [← hL]; exact (Below.refl _ _).alloc (Nat.le_refl _) _
  clear hL
  have hT := hT.trans (hbL.mono hT.size)
  have kx := kx.below hbL
  have kp := kp.below hbL
  have ka := ka.below hbL
  have kb := kb.below hbL
  have kc := kc.below hbL
  have kd := kd.below hbL
  have ki := ki.below hbL
  have kj := kj.below hbL
  have kk := kk.below hbL
  have km := km.below hbL
  have ko := ko.below hbL
  have kq := kq.below hbL
  have kr := kr.below hbL
  have kt := kt.below hbL
  (with_reducible refine (refSame_any 1048577 1048577 _ _ _ kx.bv hl).mono ?_)
  rintro e u33 ⟨rfl, hb33⟩
  have hT := hT.trans (hb33.mono hT.size)
  have kx := kx.below hb33
  have kp := kp.below hb33
  have ka := ka.below hb33
  have kb := kb.below hb33
  have kc := kc.below hb33
  have kd := kd.below hb33
  have ki := ki.below hb33
  have kj := kj.below hb33
  have kk := kk.below hb33
  have km := km.below hb33
  have ko := ko.below hb33
  have kq := kq.below hb33
  have kr := kr.below hb33
  have kt := kt.below hb33
  rw [show decide ((1048577 : Int) = 1048577) = true from rfl]
  clear hl
  have kp0 := kp.c0
  have kp1 := kp.c1
  go_wp2_with fail
  clear kp0 kp1
  (with_reducible refine (text_any (-9999999999800000000001) _ _ kp.bv (lt60 (by decide)) (HT.out.below hT)).mono ?_)
  rintro e u34 ⟨rfl, hb34⟩
  have hT := hT.trans (hb34.mono hT.size)
  have kx := kx.below hb34
  have kp := kp.below hb34
  have ka := ka.below hb34
  have kb := kb.below hb34
  have kc := kc.below hb34
  have kd := kd.below hb34
  have ki := ki.below hb34
  have kj := kj.below hb34
  have kk := kk.below hb34
  have km := km.below hb34
  have ko := ko.below hb34
  have kq := kq.below hb34
  have kr := kr.below hb34
  have kt := kt.below hb34
  rw [theText]
  have ka0 := ka.c0
  have ka1 := ka.c1
  have kb0 := kb.c0
  have kb1 := kb.c1
  go_wp2_with fail
  clear ka0 ka1 kb0 kb1
  (with_reducible refine (pair_yes (-4) (1) _ _ _ ka.bv kb.bv (by unfold isI; omega) (by unfold isI; omega)).mono ?_)
  rintro e u35 ⟨rfl, hb35⟩
  have hT := hT.trans (hb35.mono hT.size)
  have kx := kx.below hb35
  have kp := kp.below hb35
  have ka := ka.below hb35
  have kb := kb.below hb35
  have kc := kc.below hb35
  have kd := kd.below hb35
  have ki := ki.below hb35
  have kj := kj.below hb35
  have kk := kk.below hb35
  have km := km.below hb35
  have ko := ko.below hb35
  have kq := kq.below hb35
  have kr := kr.below hb35
  have kt := kt.below hb35
  have kc0 := kc.c0
  have kc1 := kc.c1
  have kd0 := kd.c0
  have kd1 := kd.c1
  go_wp2_with fail
  clear kc0 kc1 kd0 kd1
  (with_reducible refine (pair_yes (-4) (-1) _ _ _ kc.bv kd.bv (by unfold isI; omega) (by unfold isI; omega)).mono ?_)
  rintro e u36 ⟨rfl, hb36⟩
  have hT := hT.trans (hb36.mono hT.size)
  have kx := kx.below hb36
  have kp := kp.below hb36
  have ka := ka.below hb36
  have kb := kb.below hb36
  have kc := kc.below hb36
  have kd := kd.below hb36
  have ki := ki.below hb36
  have kj := kj.below hb36
  have kk := kk.below hb36
  have km := km.below hb36
  have ko := ko.below hb36
  have kq := kq.below hb36
  have kr := kr.below hb36
  have kt := kt.below hb36
  have ki0 := ki.c0
  have ki1 := ki.c1
  have kj0 := kj.c0
  have kj1 := kj.c1
  go_wp2_with fail
  clear ki0 ki1 kj0 kj1
  (with_reducible refine (pair_yes (3) (-1) _ _ _ ki.bv kj.bv (by unfold isI; omega) (by unfold isI; omega)).mono ?_)
  rintro e u37 ⟨rfl, hb37⟩
  have hT := hT.trans (hb37.mono hT.size)
  have kx := kx.below hb37
  have kp := kp.below hb37
  have ka := ka.below hb37
  have kb := kb.below hb37
  have kc := kc.below hb37
  have kd := kd.below hb37
  have ki := ki.below hb37
  have kj := kj.below hb37
  have kk := kk.below hb37
  have km := km.below hb37
  have ko := ko.below hb37
  have kq := kq.below hb37
  have kr := kr.below hb37
  have kt := kt.below hb37
  clear kx kp ka kb kc kd ki kj ko kq kr kt
  have kk0 := kk.c0
  have kk1 := kk.c1
  have km0 := km.c0
  have km1 := km.c1
  obtain ⟨gk, hgk⟩ : ∃ g, u19.heap.size = g := ⟨_, rfl⟩
  obtain ⟨gm, hgm⟩ : ∃ g, u22.heap.size = g := ⟨_, rfl⟩
  rw [hgk] at kk kk0 kk1 ⊢
  rw [hgm] at km km0 km1 ⊢
  clear hgk hgm
  have e0 : ∀ W' : World, Below u37.heap.size u37 W' → W'.cell? ⟨gk, 0, none⟩ = some (.int .i64 s19) ∧ W'.cell? ⟨gk, 1, none⟩ = some (.slice A19 n19 c19) ∧ W'.cell? ⟨gm, 0, none⟩ = some (.int .i64 s22) ∧ W'.cell? ⟨gm, 1, none⟩ = some (.slice A22 n22 c22) ∧ Below u37.heap.size u37 W' := fun W' hW =>
    ⟨(kk.below hW).c0, (kk.below hW).c1, (km.below hW).c0, (km.below hW).c1, hW⟩
  have E0 := Lib.hid e0; clear e0
  have hss6 := fun (w' : World) (hb : Below u37.heap.size u37 w') r (h : BV w' w'.heap.size r 6) => same_any 6 6 _ r w' (kk.below hb).bv h
  have hss5 := fun (w' : World) (hb : Below u37.heap.size u37 w') r (h : BV w' w'.heap.size r 5) => same_any 5 5 _ r w' (km.below hb).bv h
  rw [show decide ((6 : Int) = 6) = true from rfl] at hss6
  rw [show decide ((5 : Int) = 5) = true from rfl] at hss5
  have HS6 := Lib.hid hss6; clear hss6
  have HS5 := Lib.hid hss5; clear hss5
  have hB00 : Below u37.heap.size u37 u37.drew := (Below.refl _ _).drew
  clear kk km
  have hTs := hT.size
  go_wp2_with fail
  go_region_held3 (fun W' => W'.cell? ⟨gk, 0, none⟩ = some (.int .i64 s19) ∧ W'.cell? ⟨gk, 1, none⟩ = some (.slice A19 n19 c19) ∧ W'.cell? ⟨gm, 0, none⟩ = some (.int .i64 s22) ∧ W'.cell? ⟨gm, 1, none⟩ = some (.slice A22 n22 c22) ∧ Below u37.heap.size u37 W')
    (first | exact E0.out _ (by assumption) | exact E0.out _ ⟨rfl, rfl, rfl, Nat.le_refl _, fun _ _ => rfl⟩)
    (first
      | (go_at_call 35; have _h := hB5; refine (of_any 5 _ (by omega) (by omega)).mono ?_; rintro e w6 ⟨r2, rfl, hq2, hb6⟩; have hB6 : Below u37.heap.size u37 w6 := hB5.trans (hb6.mono hB5.size))
      | (go_at_call 35; refine (of_any 6 _ (by omega) (by omega)).mono ?_; rintro e w4 ⟨r1, rfl, hq1, hb4⟩; have hB4 : Below u37.heap.size u37 w4 := ⟨hb4.os, hb4.tape, hb4.output, hb4.size, hb4.block⟩)
      | (go_at_call 30; have _h := hB6; refine (HS5.out _ hB6 _ hq2.bv).mono ?_; rintro e w7 ⟨rfl, hb7⟩; have hB7 : Below u37.heap.size u37 w7 := hB6.trans (hb7.mono hB6.size))
      | (go_at_call 30; refine (HS6.out _ hB4 _ hq1.bv).mono ?_; rintro e w5 ⟨rfl, hb5⟩; have hB5 : Below u37.heap.size u37 w5 := hB4.trans (hb5.mono hB4.size)))
  go_wp2_with fail
  go_ret
  exact ⟨rfl, hT.trans (hB7.mono hTs)⟩

end Go.Proofs.YtbhdkgieahnojaaGreatDoor

namespace Go.Proofs.YtbhdkgieahnojaaGreatDoor
open Go.RowKit

set_option maxRecDepth 100000 in
set_option maxHeartbeats 1000000 in
theorem add_any (x y : Int) (vx vy : Value) (w : World) (hx : BV w w.heap.size vx x) (hy : BV w w.heap.size vy y) (hx6 : ab x < pw 60) (hy6 : ab y < pw 60) :
    Calls Tryz.prog 11 #[vx, vy] w (ResP (x + y) w) := by
  have hsum := fun (w' : World) (hb : Below w.heap.size w w') => sum_any x y y vx vy w' ((hx.below hb).more hb.size) ((hy.below hb).more hb.size) hx6 hy6 rfl
  obtain ⟨A1, c1, rfl, -, -, -⟩ := hx
  obtain ⟨A2, c2, rfl, -, -, -⟩ := hy
  obtain ⟨n1, hn1⟩ : ∃ n, (D (ab x)).length = n := ⟨_, rfl⟩
  obtain ⟨n2, hn2⟩ : ∃ n, (D (ab y)).length = n := ⟨_, rfl⟩
  have hs2 := sgn_bd y
  rw [hn1, hn2] at hsum
  rw [hn1, hn2]
  obtain ⟨s1, hs1e⟩ : ∃ s, sgn x = s := ⟨_, rfl⟩
  obtain ⟨s2, hs2e⟩ : ∃ s, sgn y = s := ⟨_, rfl⟩
  rw [hs1e, hs2e] at hsum
  rw [hs2e] at hs2
  rw [hs1e, hs2e]
  have HS := Lib.hid hsum; clear hsum hn1 hn2 hs1e hs2e
  go_enter Tryz.func11, Tryz.ntmps11
  go_wp2_with fail
  obtain ⟨w1, hw1, hb1, k1, k2, k3, hsz⟩ := boxes3 w #[.int .i64 s1, .slice A1 n1 c1] #[.int .i64 s2, .slice A2 n2 c2] #[.int .i64 0, .slice none 0 0]
  rw [← hw1]
  clear hw1
  (with_reducible refine (HS.out w1 hb1).mono ?_)
  rintro e w2 ⟨r, rfl, hr, hb2⟩
  have HR := Lib.hid hr
  obtain ⟨s', A', n', c', rfl⟩ := hr.form
  clear hr
  obtain ⟨g, hg⟩ : ∃ g, w.heap.size + 1 + 1 = g := ⟨_, rfl⟩
  rw [hg] at k3 ⊢
  have hgw : w.heap.size ≤ g ∧ g < w1.heap.size := by have := k3.lt; omega
  clear hg
  have hbk := k3.below hb2 hgw.2
  have q0 : w2.cell? ⟨g, 0, none⟩ = some (.int .i64 0) := hbk.cell 0
  have q1 : w2.cell? ⟨g, 1, none⟩ = some (.slice none 0 0) := hbk.cell 1
  have f0 := hbk.frozen 0
  have f1 := hbk.frozen 1
  have hb02 := hb1.trans (hb2.mono hb1.size)
  have hB6 := (hb02.setCell (p := ⟨g, 0, none⟩) hgw.1 (.int .i64 s')).setCell (p := ⟨g, 1, none⟩) hgw.1 (.slice A' n' c')
  have hbs := hbk.set2 (.int .i64 s') (.slice A' n' c')
  have hd0 := hbs.cell 0
  have hd1 := hbs.cell 1
  simp at hd0 hd1
  go_wp2_with fail
  refine bodyPost_ret (v := .tuple #[.agg #[.int .i64 s', .slice A' n' c'], .int .i64 (fite (x + y))]) (by simp [results, Tryz.results11, go_sem, hd0, hd1]) rfl ?_
  exact ⟨_, rfl, (HR.out.far2 (g := g) hgw.2 (.int .i64 s') (.slice A' n' c')).mono hb1.size, hB6⟩

set_option maxRecDepth 100000 in
set_option maxHeartbeats 1000000 in
theorem sub_any (x y : Int) (vx vy : Value) (w : World) (hx : BV w w.heap.size vx x) (hy : BV w w.heap.size vy y) (hx6 : ab x < pw 60) (hy6 : ab y < pw 60) :
    Calls Tryz.prog 13 #[vx, vy] w (ResP (x - y) w) := by
  have hsum := fun (w' : World) (hb : Below w.heap.size w w') => sum_any x y (-y) vx vy w' ((hx.below hb).more hb.size) ((hy.below hb).more hb.size) hx6 hy6 (ab_neg y).symm
  rw [sgn_neg, ← Int.sub_eq_add_neg] at hsum
  obtain ⟨A1, c1, rfl, -, -, -⟩ := hx
  obtain ⟨A2, c2, rfl, -, -, -⟩ := hy
  obtain ⟨n1, hn1⟩ : ∃ n, (D (ab x)).length = n := ⟨_, rfl⟩
  obtain ⟨n2, hn2⟩ : ∃ n, (D (ab y)).length = n := ⟨_, rfl⟩
  have hs2 := sgn_bd y
  rw [hn1, hn2] at hsum
  rw [hn1, hn2]
  obtain ⟨s1, hs1e⟩ : ∃ s, sgn x = s := ⟨_, rfl⟩
  obtain ⟨s2, hs2e⟩ : ∃ s, sgn y = s := ⟨_, rfl⟩
  rw [hs1e, hs2e] at hsum
  rw [hs2e] at hs2
  rw [hs1e, hs2e]
  have HS := Lib.hid hsum; clear hsum hn1 hn2 hs1e hs2e
  go_enter Tryz.func13, Tryz.ntmps13
  go_wp2_with fail
  obtain ⟨w1, hw1, hb1, k1, k2, k3, hsz⟩ := boxes3 w #[.int .i64 s1, .slice A1 n1 c1] #[.int .i64 s2, .slice A2 n2 c2] #[.int .i64 0, .slice none 0 0]
  rw [← hw1]
  clear hw1
  (with_reducible refine (HS.out w1 hb1).mono ?_)
  rintro e w2 ⟨r, rfl, hr, hb2⟩
  have HR := Lib.hid hr
  obtain ⟨s', A', n', c', rfl⟩ := hr.form
  clear hr
  obtain ⟨g, hg⟩ : ∃ g, w.heap.size + 1 + 1 = g := ⟨_, rfl⟩
  rw [hg] at k3 ⊢
  have hgw : w.heap.size ≤ g ∧ g < w1.heap.size := by have := k3.lt; omega
  clear hg
  have hbk := k3.below hb2 hgw.2
  have q0 : w2.cell? ⟨g, 0, none⟩ = some (.int .i64 0) := hbk.cell 0
  have q1 : w2.cell? ⟨g, 1, none⟩ = some (.slice none 0 0) := hbk.cell 1
  have f0 := hbk.frozen 0
  have f1 := hbk.frozen 1
  have hb02 := hb1.trans (hb2.mono hb1.size)
  have hB6 := (hb02.setCell (p := ⟨g, 0, none⟩) hgw.1 (.int .i64 s')).setCell (p := ⟨g, 1, none⟩) hgw.1 (.slice A' n' c')
  have hbs := hbk.set2 (.int .i64 s') (.slice A' n' c')
  have hd0 := hbs.cell 0
  have hd1 := hbs.cell 1
  simp at hd0 hd1
  go_wp2_with fail
  refine bodyPost_ret (v := .tuple #[.agg #[.int .i64 s', .slice A' n' c'], .int .i64 (fite (x - y))]) (by simp [results, Tryz.results13, go_sem, hd0, hd1]) rfl ?_
  exact ⟨_, rfl, (HR.out.far2 (g := g) hgw.2 (.int .i64 s') (.slice A' n' c')).mono hb1.size, hB6⟩

end Go.Proofs.YtbhdkgieahnojaaGreatDoor

namespace Go.Proofs.YtbhdkgieahnojaaGreatDoor
open Go.RowKit

theorem right_yes (z : Int) (v : Value) (w : World) (h : BV w w.heap.size v z) (hz : ab z < pw 60) :
    Calls Tryz.prog 26 #[v] w fun e w' => e = .returned (.bool true) ∧ Below w.heap.size w w' := by
  obtain ⟨A, c, rfl, hlc, hcm, hI⟩ := h
  have := len60 hz
  exact right_any (sgn z) (D (ab z)) A c w hI (by omega) true (by simp [rightP_of hz])

theorem itoa_inj {a b : Int} (h : Lib.itoa a = Lib.itoa b) : a = b := by
  have h1 := cut_itoa a
  have h2 := cut_itoa b
  rw [h] at h1
  have h3 : decide (a < 0) = decide (b < 0) := h1.1.symm.trans h2.1
  have h4 : Lib.decDigits (ab a).toNat = Lib.decDigits (ab b).toNat := h1.2.symm.trans h2.2
  have h5 := congrArg dv h4
  rw [dv_dd, dv_dd] at h5
  have h6 : a < 0 ↔ b < 0 := by simpa using h3
  unfold ab at h5
  omega
theorem byt_inj {a b : List UInt8} (h : byt a = byt b) : a = b := by rw [← bts_byt a, ← bts_byt b, h]

theorem toList_ne {S1 S2 : ByteArray} (h : S1 ≠ S2) : (S1.toList == S2.toList) = false := by
  rw [beq_eq_false_iff_ne]
  intro e
  rw [ByteArray.toList_eq, ByteArray.toList_eq] at e
  exact h (ByteArray.ext (Array.toList_inj.1 e))
theorem isI.lo {z : Int} (h : isI z) : -9223372036854775808 ≤ z := h.1
theorem isI.hi {z : Int} (h : isI z) : z ≤ 9223372036854775807 := h.2
theorem isI.lt {z : Int} (h : isI z) : ab z < pw 60 := lt60 (by unfold isI at h; unfold ab; omega)
theorem isI.add {a b : Int} (ha : isI a) (hb : isI b) : ab (a + b) < pw 60 := lt60 (by unfold isI at *; unfold ab; omega)
theorem isI.sub {a b : Int} (ha : isI a) (hb : isI b) : ab (a - b) < pw 60 := lt60 (by unfold isI at *; unfold ab; omega)
theorem pw7 : pw 7 = 1393796574908163946345982392040522594123776 := by decide
theorem isI.mul {a b : Int} (ha : isI a) (hb : isI b) : ab (a * b) < pw 60 := by
  have h7 := pw_le (show 7 ≤ 60 by omega)
  rw [pw7] at h7
  rw [ab_mul]
  have h1 : ab a ≤ 9223372036854775808 := by unfold isI at ha; unfold ab; omega
  have h2 : ab b ≤ 9223372036854775808 := by unfold isI at hb; unfold ab; omega
  have h3 : ab a * ab b ≤ 9223372036854775808 * 9223372036854775808 := Int.mul_le_mul h1 h2 (ab_nonneg _) (by omega)
  omega
theorem isI.neg {a : Int} (ha : isI a) : ab (-a) < pw 60 := by rw [ab_neg]; exact ha.lt
theorem half_mul {a b : Int} (ha : -1073741824 < a ∧ a < 1073741824) (hb : -1073741824 < b ∧ b < 1073741824) : -1152921504606846976 ≤ a * b ∧ a * b ≤ 1152921504606846976 := by
  have h1 : ab a ≤ 1073741824 := by unfold ab; omega
  have h2 : ab b ≤ 1073741824 := by unfold ab; omega
  have h3 : ab a * ab b ≤ 1073741824 * 1073741824 := Int.mul_le_mul h1 h2 (ab_nonneg _) (by omega)
  rw [← ab_mul] at h3
  unfold ab at h3
  omega
theorem addP {a b : Int} (ha : isI a) (hb : isI b) : fite (a + b) = 0 ∧ fitz (a + b) = a + b := ⟨if_pos (ha.add hb), if_pos (ha.add hb)⟩
theorem subP {a b : Int} (ha : isI a) (hb : isI b) : fite (a - b) = 0 ∧ fitz (a - b) = a - b := ⟨if_pos (ha.sub hb), if_pos (ha.sub hb)⟩
theorem mulP {a b : Int} (ha : isI a) (hb : isI b) : fite (a * b) = 0 ∧ fitz (a * b) = a * b := ⟨if_pos (ha.mul hb), if_pos (ha.mul hb)⟩

end Go.Proofs.YtbhdkgieahnojaaGreatDoor
