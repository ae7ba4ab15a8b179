/- Walks: the law on ints (m). Printed by a program. -/
import Derived.Test.YtofndidngjglmaaDoorDj
namespace Go.Proofs.YtofndidngjglmaaDoor
open Go.RowKit

set_option maxRecDepth 100000 in
set_option maxHeartbeats 8000000 in
theorem ints_m (a : Int) (ha : isI a) (hmn : a ≠ -9223372036854775808) (w : World) (ht : TB w) :
    Calls Tryd.prog 7 #[.int .i64 a, .int .i64 a] w fun e w' => e = .returned (.bool true) ∧ Below w.heap.size w w' := by
  have HA := Lib.hid ha
  have HB := Lib.hid ha
  have HT := Lib.hid ht; clear ht
  have hm1 : (a != -9223372036854775808) = true := by simpa using hmn
  have hiv : IntV (-a) = .tuple #[.int .i64 (-a), .bool true] := IntV.yes (by unfold isI at *; omega)
  have hwn : IntKind.i64.wrap (-a) = -a := IntWalk.i64_in _ (by unfold isI at *; omega)
  have hiva : IntV a = .tuple #[.int .i64 a, .bool true] := IntV.yes ha
  have HIV := Lib.hid hiv; clear hiv
  have HIVA := Lib.hid hiva; clear hiva
  obtain ⟨S1, hS1⟩ : ∃ S, byt (Lib.itoa a) = S := ⟨_, rfl⟩
  have HS1 := Lib.hid hS1; clear hS1
  have hcmp : Lib.compareInt a a = 0 := by unfold Lib.compareInt; rw [if_neg (by omega), if_neg (by omega)]
  have HC := Lib.hid hcmp; clear hcmp
  clear ha hmn
  go_enter Tryd.func7, Tryd.ntmps7
  go_wp2_with fail
  (with_reducible refine (small_any _ HT.out).mono ?_)
  rintro e u0 ⟨rfl, hb0⟩
  have hT := hb0
  go_wp2_with fail
  (with_reducible refine (of_any _ _ HA.out.lo HA.out.hi).mono ?_)
  rintro e u1 ⟨r1, rfl, hr1, hb1⟩
  have hT := hT.trans (hb1.mono hT.size)
  obtain ⟨s1, A1, n1, c1, rfl⟩ := hr1.form
  go_wp2_with fail
  obtain ⟨Wx, hW, hbx, kx⟩ := box1 hr1
  rw [← hW]
  clear hW
  have hT := hT.trans (hbx.mono hT.size)
  (with_reducible refine (of_any _ _ HB.out.lo HB.out.hi).mono ?_)
  rintro e u2 ⟨r2, rfl, hr2, hb2⟩
  have hT := hT.trans (hb2.mono hT.size)
  have kx := kx.below hb2
  obtain ⟨s2, A2, n2, c2, rfl⟩ := hr2.form
  have kxz := kx.below ((Below.refl _ u2).alloc (Nat.le_refl _) (.cells #[.int .i64 s2, .slice A2 n2 c2] 24))
  have kxz0 := kxz.c0
  have kxz1 := kxz.c1
  go_wp2_with fail
  clear kxz0 kxz1
  clear kxz
  obtain ⟨Wy, hW, hbx, ky⟩ := box1 hr2
  rw [← hW]
  clear hW
  have hT := hT.trans (hbx.mono hT.size)
  have kx := kx.below hbx
  (with_reducible refine (int_any _ _ _ kx.bv HA.out.lt).mono ?_)
  rintro e u3 ⟨rfl, hb3⟩
  have hT := hT.trans (hb3.mono hT.size)
  have kx := kx.below hb3
  have ky := ky.below hb3
  rw [HIVA.out]
  have kx0 := kx.c0
  have kx1 := kx.c1
  go_wp2_with fail
  clear kx0 kx1
  (with_reducible refine (neg_any _ _ _ kx.bv HA.out.lt).mono ?_)
  rintro e u4 ⟨r4, rfl, hr4, hb4⟩
  have hT := hT.trans (hb4.mono hT.size)
  have kx := kx.below hb4
  have ky := ky.below hb4
  go_wp2_with fail
  (with_reducible refine (int_any _ _ _ hr4.bv HA.out.neg).mono ?_)
  rintro e u5 ⟨rfl, hb5⟩
  have hT := hT.trans (hb5.mono hT.size)
  have kx := kx.below hb5
  have ky := ky.below hb5
  rw [HIV.out]
  have kx0 := kx.c0
  have kx1 := kx.c1
  have ky0 := ky.c0
  have ky1 := ky.c1
  obtain ⟨gx, hgx⟩ : ∃ g, u1.heap.size = g := ⟨_, rfl⟩
  obtain ⟨gy, hgy⟩ : ∃ g, u2.heap.size = g := ⟨_, rfl⟩
  rw [hgx] at kx kx0 kx1 ⊢
  rw [hgy] at ky ky0 ky1 ⊢
  clear hgx hgy
  have e0 : ∀ W' : World, Below u5.heap.size u5 W' → W'.cell? ⟨gx, 0, none⟩ = some (.int .i64 s1) ∧ W'.cell? ⟨gx, 1, none⟩ = some (.slice A1 n1 c1) ∧ W'.cell? ⟨gy, 0, none⟩ = some (.int .i64 s2) ∧ W'.cell? ⟨gy, 1, none⟩ = some (.slice A2 n2 c2) ∧ Below u5.heap.size u5 W' := fun W' hW =>
    ⟨(kx.below hW).c0, (kx.below hW).c1, (ky.below hW).c0, (ky.below hW).c1, hW⟩
  have E0 := Lib.hid e0; clear e0
  have hB00 : Below u5.heap.size u5 u5.drew := (Below.refl _ _).drew
  have hrt := fun w' (hb : Below u5.heap.size u5 w') => right_yes _ _ w' (kx.below hb).bv HA.out.lt
  have htx := fun w' (hb : Below u5.heap.size u5 w') => text_any _ _ w' (kx.below hb).bv HA.out.lt (HT.out.below (hT.trans (hb.mono hT.size)))
  have hty := fun w' (hb : Below u5.heap.size u5 w') => text_any _ _ w' (ky.below hb).bv HB.out.lt (HT.out.below (hT.trans (hb.mono hT.size)))
  rw [HS1.out] at htx
  rw [HS1.out] at hty
  have HRT := Lib.hid hrt; clear hrt
  have HTX := Lib.hid htx; clear htx
  have HTY := Lib.hid hty; clear hty
  have hTs := hT.size
  go_wp2_with fail
  go_region_held3 (fun W' => W'.cell? ⟨gx, 0, none⟩ = some (.int .i64 s1) ∧ W'.cell? ⟨gx, 1, none⟩ = some (.slice A1 n1 c1) ∧ W'.cell? ⟨gy, 0, none⟩ = some (.int .i64 s2) ∧ W'.cell? ⟨gy, 1, none⟩ = some (.slice A2 n2 c2) ∧ Below u5.heap.size u5 W')
    (first | exact E0.out _ (by assumption) | exact E0.out _ ⟨rfl, rfl, rfl, Nat.le_refl _, fun _ _ => rfl⟩)
    (first
      | (go_at_call 11; refine (HRT.out u5.drew hB00).mono ?_; rintro e w6 ⟨rfl, hb6⟩; have hB6 : Below u5.heap.size u5 w6 := ⟨hb6.os, hb6.tape, hb6.output, hb6.size, hb6.block⟩)
      | (go_at_call 23; have _h := hB7; refine (HTY.out _ hB7).mono ?_; rintro e w8 ⟨rfl, hb8⟩; have hB8 : Below u5.heap.size u5 w8 := hB7.trans (hb8.mono hB7.size))
      | (go_at_call 23; refine (HTX.out _ hB6).mono ?_; rintro e w7 ⟨rfl, hb7⟩; have hB7 : Below u5.heap.size u5 w7 := hB6.trans (hb7.mono hB6.size)))
  clear kx0 kx1 ky0 ky1
  have hT := hT.trans (hB8.mono hT.size)
  have kx := kx.below hB8
  have ky := ky.below hB8
  have kx0 := kx.c0
  have kx1 := kx.c1
  have ky0 := ky.c0
  have ky1 := ky.c1
  go_wp2_with fail
  clear kx0 kx1 ky0 ky1
  (with_reducible refine (add_any _ _ _ _ _ kx.bv ky.bv HA.out.lt HB.out.lt).mono ?_)
  rintro e u6 ⟨r5, rfl, hr5, hb9⟩
  have hT := hT.trans (hb9.mono hT.size)
  have kx := kx.below hb9
  have ky := ky.below hb9
  rw [(addP HA.out HB.out).1]
  rw [(addP HA.out HB.out).2] at hr5
  obtain ⟨s5, A5, n5, c5, rfl⟩ := hr5.form
  have kxz := kx.below ((Below.refl _ u6).alloc (Nat.le_refl _) (.cells #[.int .i64 s5, .slice A5 n5 c5] 24))
  have kxz0 := kxz.c0
  have kxz1 := kxz.c1
  have kyz := ky.below ((Below.refl _ u6).alloc (Nat.le_refl _) (.cells #[.int .i64 s5, .slice A5 n5 c5] 24))
  have kyz0 := kyz.c0
  have kyz1 := kyz.c1
  go_wp2_with fail
  clear kxz0 kxz1
  clear kxz
  clear kyz0 kyz1
  clear kyz
  obtain ⟨Ws, hW, hbx, ks⟩ := box1 hr5
  rw [← hW]
  clear hW
  have hT := hT.trans (hbx.mono hT.size)
  have kx := kx.below hbx
  have ky := ky.below hbx
  (with_reducible refine (sub_any _ _ _ _ _ kx.bv ky.bv HA.out.lt HB.out.lt).mono ?_)
  rintro e u7 ⟨r6, rfl, hr6, hb9⟩
  have hT := hT.trans (hb9.mono hT.size)
  have kx := kx.below hb9
  have ky := ky.below hb9
  have ks := ks.below hb9
  rw [(subP HA.out HB.out).1]
  rw [(subP HA.out HB.out).2] at hr6
  obtain ⟨s6, A6, n6, c6, rfl⟩ := hr6.form
  have kxz := kx.below ((Below.refl _ u7).alloc (Nat.le_refl _) (.cells #[.int .i64 s6, .slice A6 n6 c6] 24))
  have kxz0 := kxz.c0
  have kxz1 := kxz.c1
  have kyz := ky.below ((Below.refl _ u7).alloc (Nat.le_refl _) (.cells #[.int .i64 s6, .slice A6 n6 c6] 24))
  have kyz0 := kyz.c0
  have kyz1 := kyz.c1
  go_wp2_with fail
  clear kxz0 kxz1
  clear kxz
  clear kyz0 kyz1
  clear kyz
  obtain ⟨Wd, hW, hbx, kd⟩ := box1 hr6
  rw [← hW]
  clear hW
  have hT := hT.trans (hbx.mono hT.size)
  have kx := kx.below hbx
  have ky := ky.below hbx
  have ks := ks.below hbx
  (with_reducible refine (mul_any _ _ _ _ _ kx.bv ky.bv HA.out.lt HB.out.lt).mono ?_)
  rintro e u8 ⟨r7, rfl, hr7, hb9⟩
  have hT := hT.trans (hb9.mono hT.size)
  have kx := kx.below hb9
  have ky := ky.below hb9
  have ks := ks.below hb9
  have kd := kd.below hb9
  rw [(mulP HA.out HB.out).1]
  rw [(mulP HA.out HB.out).2] at hr7
  obtain ⟨s7, A7, n7, c7, rfl⟩ := hr7.form
  have kxz := kx.below ((Below.refl _ u8).alloc (Nat.le_refl _) (.cells #[.int .i64 s7, .slice A7 n7 c7] 24))
  have kxz0 := kxz.c0
  have kxz1 := kxz.c1
  have kyz := ky.below ((Below.refl _ u8).alloc (Nat.le_refl _) (.cells #[.int .i64 s7, .slice A7 n7 c7] 24))
  have kyz0 := kyz.c0
  have kyz1 := kyz.c1
  go_wp2_with fail
  clear kxz0 kxz1
  clear kxz
  clear kyz0 kyz1
  clear kyz
  obtain ⟨Wp, hW, hbx, kp⟩ := box1 hr7
  rw [← hW]
  clear hW
  have hT := hT.trans (hbx.mono hT.size)
  have kx := kx.below hbx
  have ky := ky.below hbx
  have ks := ks.below hbx
  have kd := kd.below hbx
  (with_reducible refine (compare_any _ _ _ _ _ kx.bv ky.bv HA.out.lt HB.out.lt).mono ?_)
  rintro e u9 ⟨rfl, hb9⟩
  have hT := hT.trans (hb9.mono hT.size)
  have kx := kx.below hb9
  have ky := ky.below hb9
  have ks := ks.below hb9
  have kd := kd.below hb9
  have kp := kp.below hb9
  rw [HC.out]
  have ks0 := ks.c0
  have ks1 := ks.c1
  by_cases t0 : -1073741824 < a
  rotate_left
  · go_wp2_with fail
    go_ret
    exact ⟨rfl, hT⟩
  by_cases t1 : a < 1073741824
  rotate_left
  · go_wp2_with fail
    go_ret
    exact ⟨rfl, hT⟩
  have hm := half_mul (a := a) (b := a) ⟨t0, t1⟩ ⟨t0, t1⟩
  have hw1 : IntKind.i64.wrap (a + a) = a + a := IntWalk.i64_in _ (by omega)
  have hw2 : IntKind.i64.wrap (a - a) = a - a := IntWalk.i64_in _ (by omega)
  have hw3 : IntKind.i64.wrap (a * a) = a * a := IntWalk.i64_in _ (by omega)
  have v1 : isI (a + a) := by unfold isI; omega
  have v2 : isI (a - a) := by unfold isI; omega
  have v3 : isI (a * a) := by unfold isI; omega
  clear hm
  have V1 := Lib.hid v1; clear v1
  have V2 := Lib.hid v2; clear v2
  have V3 := Lib.hid v3; clear v3
  go_wp2_with fail
  clear ks0 ks1
  (with_reducible refine (int_any _ _ _ ks.bv V1.out.lt).mono ?_)
  rintro e u10 ⟨rfl, hb9⟩
  have hT := hT.trans (hb9.mono hT.size)
  have kx := kx.below hb9
  have ky := ky.below hb9
  have ks := ks.below hb9
  have kd := kd.below hb9
  have kp := kp.below hb9
  rw [IntV.yes V1.out]
  have kd0 := kd.c0
  have kd1 := kd.c1
  go_wp2_with fail
  clear kd0 kd1
  (with_reducible refine (int_any _ _ _ kd.bv V2.out.lt).mono ?_)
  rintro e u11 ⟨rfl, hb9⟩
  have hT := hT.trans (hb9.mono hT.size)
  have kx := kx.below hb9
  have ky := ky.below hb9
  have ks := ks.below hb9
  have kd := kd.below hb9
  have kp := kp.below hb9
  rw [IntV.yes V2.out]
  have kp0 := kp.c0
  have kp1 := kp.c1
  go_wp2_with fail
  clear kp0 kp1
  (with_reducible refine (int_any _ _ _ kp.bv V3.out.lt).mono ?_)
  rintro e u12 ⟨rfl, hb9⟩
  have hT := hT.trans (hb9.mono hT.size)
  have kx := kx.below hb9
  have ky := ky.below hb9
  have ks := ks.below hb9
  have kd := kd.below hb9
  have kp := kp.below hb9
  rw [IntV.yes V3.out]
  go_wp2_with fail
  go_ret
  exact ⟨rfl, hT⟩

end Go.Proofs.YtofndidngjglmaaDoor
