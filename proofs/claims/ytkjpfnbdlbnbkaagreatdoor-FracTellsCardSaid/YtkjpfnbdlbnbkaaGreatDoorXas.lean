/- Walks: the reference's Add. Printed by a program (rref.py). Walks: the reference's Of. Printed by a program (rof4.py). Walks: the reference's Text. Printed by a program (rtext4.py). -/
import Derived.Test.YtkjpfnbdlbnbkaaGreatDoorXar
import Derived.Test.YtkjpfnbdlbnbkaaGreatDoorXaj

namespace Go.Proofs.YtkjpfnbdlbnbkaaGreatDoor
open Go.RowKit

theorem add_diff_b {x y : Int} (h : sgn x ≠ 0 ∧ sgn y ≠ 0 ∧ sgn x ≠ sgn y) (_ : ab x < ab y) : sgn y * (ab y - ab x) = x + y := by
  obtain ⟨h1, h2, h3⟩ := h
  rcases sgn_three x with ⟨a, e⟩ | ⟨a, e⟩ | ⟨a, e⟩ <;> rcases sgn_three y with ⟨b, e'⟩ | ⟨b, e'⟩ | ⟨b, e'⟩ <;> rw [e] at h1 h3 <;> rw [e'] at h2 h3 ⊢ <;> first | (exfalso; omega) | (unfold ab at *; omega)
theorem add_diff_a {x y : Int} (h : sgn x ≠ 0 ∧ sgn y ≠ 0 ∧ sgn x ≠ sgn y) (_ : ¬ ab x < ab y) : sgn x * (ab x - ab y) = x + y := by
  obtain ⟨h1, h2, h3⟩ := h
  rcases sgn_three x with ⟨a, e⟩ | ⟨a, e⟩ | ⟨a, e⟩ <;> rcases sgn_three y with ⟨b, e'⟩ | ⟨b, e'⟩ | ⟨b, e'⟩ <;> rw [e] at h1 h3 ⊢ <;> rw [e'] at h2 h3 <;> first | (exfalso; omega) | (unfold ab at *; omega)

set_option maxRecDepth 100000 in
set_option maxHeartbeats 8000000 in
theorem radd_diff_b {s1 s2 : Int} {A1 A2 : Option Addr} {n1 c1 n2 c2 : Nat} {x y : Int} (w : World) (h1 : BV w w.heap.size (.agg #[.int .i64 s1, .slice A1 n1 c1]) x) (h2 : BV w w.heap.size (.agg #[.int .i64 s2, .slice A2 n2 c2]) y) (hx : ab x < pw 60) (hy : ab y < pw 60) (hc : s1 ≠ 0 ∧ s2 ≠ 0 ∧ s1 ≠ s2) (hlt : ab x < ab y) :
    Calls Tryz.prog 8 #[.agg #[.int .i64 s1, .slice A1 n1 c1], .agg #[.int .i64 s2, .slice A2 n2 c2]] w fun e w' => ∃ r, e = .returned (.tuple #[r, .int .i64 (fite (x + y))]) ∧ BO w' w.heap.size r (fitz (x + y)) ∧ Below w.heap.size w w' := by
  have hs1 := (bv_sv h1).2.1
  have hs2 := (bv_sv h2).2.1
  have hl1 : (D (ab x)).length ≤ 60 := (D_len_le (ab_nonneg x)).2 hx
  have hl2 : (D (ab y)).length ≤ 60 := (D_len_le (ab_nonneg y)).2 hy
  have hr1 := fun (w' : World) (hbw : Below w.heap.size w w') => rRight_yes (h1.later hbw) hx
  have hr2 := fun (w' : World) (hbw : Below w.heap.size w w') => rRight_yes (h2.later hbw) hy
  have HR1 := Lib.hid hr1; clear hr1
  have HR2 := Lib.hid hr2; clear hr2
  have hnn : 0 ≤ ab y - ab x := by omega
  have hle : ab x ≤ ab y := by omega
  have hval : s2 * (ab y - ab x) = x + y := by rw [hs1, hs2] at hc; rw [hs2]; exact add_diff_b hc hlt
  have hls := fun (w' : World) (hbw : Below w.heap.size w w') => rless_any (D (ab x)) (D (ab y)) (.slice A1 n1 c1) (.slice A2 n2 c2) w' (bv_sv (h1.later hbw)).1 (bv_sv (h2.later hbw)).1 (Dig_D _) (Dig_D _) (by omega) (by omega) true (by rw [nv_D (ab_nonneg x), nv_D (ab_nonneg y)]; simp; omega)
  have hf := fun (w' : World) (hbw : Below w.heap.size w w') => rminus_any (D (ab y)) (D (ab x)) (.slice A2 n2 c2) (.slice A1 n1 c1) w' (bv_sv (h2.later hbw)).1 (bv_sv (h1.later hbw)).1 (Dig_D _) (Dig_D _) (by omega) (D_len_mono (ab_nonneg _) hle) (by rw [nv_D (ab_nonneg x), nv_D (ab_nonneg y)]; exact hle)
  rw [nv_D (ab_nonneg y), nv_D (ab_nonneg x)] at hf
  have hl3 : (D (ab y - ab x)).length ≤ 400 := by
    have := D_len_mono hnn (show ab y - ab x ≤ ab y by have := ab_nonneg x; omega)
    omega
  have hS3 : s2 = 1 ∨ s2 = -1 ∨ ab y - ab x = 0 := by
    have := sgn_bd y
    rw [← hs2] at this
    omega
  have hmd := fun (w' : World) (v : Value) (B : Nat) (h : OwnI w' B v (D (ab y - ab x))) => rmade_any (D (ab y - ab x)) s2 (x + y) v w' h.sv (Dig_D _) hl3 (by rw [nv_D hnn]; exact hval.symm) (by rw [nv_D hnn]; exact hS3)
  have q1 : (s1 == 0) = false := by simpa using hc.1
  have q2 : (s2 == 0) = false := by simpa using hc.2.1
  have q3 : (s1 == s2) = false := by simpa using hc.2.2
  have HFF := Lib.hid hf; clear hf
  have HMD := Lib.hid hmd; clear hmd
  have HLS := Lib.hid hls; clear hls
  obtain ⟨E, hE⟩ : ∃ E, fite (x + y) = E := ⟨_, rfl⟩
  obtain ⟨F, hF⟩ : ∃ E, fitz (x + y) = E := ⟨_, rfl⟩
  rw [hE, hF]
  have HZE := Lib.hid hE; clear hE
  have HZF := Lib.hid hF; clear hF
  clear hs1 hs2 hl1 hl2 hl3 h1 h2 hx hy hnn hS3 hval hle hlt hc
  obtain ⟨W, hW, hbx, k1, k2, kR, hsz⟩ := boxes3 w #[.int .i64 s1, .slice A1 n1 c1] #[.int .i64 s2, .slice A2 n2 c2] #[.int .i64 0, .slice none 0 0]
  go_enter Tryz.func8, Tryz.ntmps8
  go_wp2_with fail
  rw [← hW]
  clear hW hsz
  have hT := hbx
  have a0 := k1.cell 0
  have a1 := k1.cell 1
  simp at a0 a1
  go_wp2_with fail
  clear a0 a1
  (with_reducible refine (HR1.out _ hT).mono ?_)
  rintro e u1 ⟨rfl, hb9⟩
  have hT := hT.trans (hb9.mono hT.size)
  have k1 := k1.below hb9 k1.lt
  have k2 := k2.below hb9 k2.lt
  have kR := kR.below hb9 kR.lt
  have b0 := k2.cell 0
  have b1 := k2.cell 1
  simp at b0 b1
  go_wp2_with fail
  clear b0 b1
  (with_reducible refine (HR2.out _ hT).mono ?_)
  rintro e u ⟨rfl, hb9⟩
  have hT := hT.trans (hb9.mono hT.size)
  have k1 := k1.below hb9 k1.lt
  have k2 := k2.below hb9 k2.lt
  have kR := kR.below hb9 kR.lt
  have a0 := k1.cell 0
  have a1 := k1.cell 1
  have b0 := k2.cell 0
  have b1 := k2.cell 1
  simp at a0 a1 b0 b1
  go_wp2_with fail
  (with_reducible refine (HLS.out _ hT).mono ?_)
  rintro e u' ⟨rfl, rfl⟩
  go_upto_region 6 with fail
  clear a0 a1 b0 b1 q1 q2 q3
  obtain ⟨B, hB⟩ : ∃ B, w.heap.size + 1 + 1 = B := ⟨_, rfl⟩
  have hwB : w.heap.size + 1 < B := by omega
  have hBu : B ≤ u.heap.size := by have := kR.lt; omega
  rw [hB] at kR ⊢
  clear hB
  have kRl := kR.lt
  have kR := And.intro kR kRl
  clear kRl
  have hf := fun (w' : World) (hb : Below B u w') => HFF.out w' (hT.trans (hb.mono (by omega)))
  have HF := Lib.hid hf; clear hf HFF
  have e0 : ∀ W' : World, Below B u W' → W'.cell? ⟨w.heap.size, 0, none⟩ = some (.int .i64 s1) ∧ W'.cell? ⟨w.heap.size, 1, none⟩ = some (.slice A1 n1 c1) ∧ W'.cell? ⟨w.heap.size + 1, 0, none⟩ = some (.int .i64 s2) ∧ W'.cell? ⟨w.heap.size + 1, 1, none⟩ = some (.slice A2 n2 c2) ∧ Below B u W' := fun W' hW =>
    ⟨(k1.below hW (by omega)).cell 0, (k1.below hW (by omega)).cell 1, (k2.below hW (by omega)).cell 0, (k2.below hW (by omega)).cell 1, hW⟩
  have E0 := Lib.hid e0; clear e0
  have hB00 : Below B u u.drew := (Below.refl _ _).drew
  have hge : B ≤ B := Nat.le_refl _
  have HK2 := Lib.hid kR; clear kR
  clear k1 k2
  go_region_held3 (fun W' => W'.cell? ⟨w.heap.size, 0, none⟩ = some (.int .i64 s1) ∧ W'.cell? ⟨w.heap.size, 1, none⟩ = some (.slice A1 n1 c1) ∧ W'.cell? ⟨w.heap.size + 1, 0, none⟩ = some (.int .i64 s2) ∧ W'.cell? ⟨w.heap.size + 1, 1, none⟩ = some (.slice A2 n2 c2) ∧ Below B u W')
    (first | exact E0.out _ (below_st hB6 hge _ _) | exact E0.out _ (by assumption) | exact E0.out _ ⟨rfl, rfl, rfl, Nat.le_refl _, fun _ _ => rfl⟩)
    (first
      | (go_at_call 61; have _h := hr5; refine (rkept_any _ _ _ _ hr5).mono ?_; rintro e x6 ⟨r6, rfl, hr6, hb6⟩; have hB6 : Below B u x6 := hB5.trans (hb6.mono (Nat.le_trans hBu hB5.size)); rw [HZE.out]; rw [HZF.out] at hr6; obtain ⟨s6, A6, n6, c6, rfl⟩ := hr6.form; have kR6 := (HK2.out.1.below (hb4a.mono (Nat.le_refl _)) HK2.out.2).below (hb5.trans (hb6.mono hb5.size)) hlt5; have z0 := kR6.cell 0; have z1 := kR6.cell 1; have y0 := kR6.frozen 0; have y1 := kR6.frozen 1)
      | (go_at_call 62; have _h := hv4; refine (HMD.out _ _ _ hv4).mono ?_; rintro e x5 ⟨r5, rfl, hr5, hb5⟩; have hB5 : Below B u x5 := hB4.trans (hb5.mono (Nat.le_trans hBu hB4.size)))
      | (go_at_call 65; refine (HF.out _ hB00).mono ?_; rintro e x4 ⟨v4, rfl, hv4, hb4⟩; have hb4a : Below u.heap.size u x4 := ⟨hb4.os, hb4.tape, hb4.output, hb4.size, hb4.block⟩; have hB4 : Below B u x4 := hb4a.mono hBu; have hlt5 : B < x4.heap.size := Nat.lt_of_lt_of_le HK2.out.2 hb4a.size))
  have hbs := kR6.set2 (.int .i64 s6) (.slice A6 n6 c6)
  have x0 := hbs.cell 0
  have x1 := hbs.cell 1
  simp at x0 x1
  go_wp2_with fail
  refine bodyPost_ret (v := .tuple #[.agg #[.int .i64 s6, .slice A6 n6 c6], .int .i64 E]) (by simp [results, Tryz.results8, go_sem, x0, x1]) rfl ?_
  exact ⟨_, rfl, (hr6.far2 hlt5 _ _).mono (by have := HK2.out.2; have := hb4a.size; omega), below_st (hT.trans (hB6.mono (by omega))) (by omega) _ _⟩

set_option maxRecDepth 100000 in
set_option maxHeartbeats 8000000 in
theorem radd_diff_a {s1 s2 : Int} {A1 A2 : Option Addr} {n1 c1 n2 c2 : Nat} {x y : Int} (w : World) (h1 : BV w w.heap.size (.agg #[.int .i64 s1, .slice A1 n1 c1]) x) (h2 : BV w w.heap.size (.agg #[.int .i64 s2, .slice A2 n2 c2]) y) (hx : ab x < pw 60) (hy : ab y < pw 60) (hc : s1 ≠ 0 ∧ s2 ≠ 0 ∧ s1 ≠ s2) (hlt : ¬ ab x < ab y) :
    Calls Tryz.prog 8 #[.agg #[.int .i64 s1, .slice A1 n1 c1], .agg #[.int .i64 s2, .slice A2 n2 c2]] w fun e w' => ∃ r, e = .returned (.tuple #[r, .int .i64 (fite (x + y))]) ∧ BO w' w.heap.size r (fitz (x + y)) ∧ Below w.heap.size w w' := by
  have hs1 := (bv_sv h1).2.1
  have hs2 := (bv_sv h2).2.1
  have hl1 : (D (ab x)).length ≤ 60 := (D_len_le (ab_nonneg x)).2 hx
  have hl2 : (D (ab y)).length ≤ 60 := (D_len_le (ab_nonneg y)).2 hy
  have hr1 := fun (w' : World) (hbw : Below w.heap.size w w') => rRight_yes (h1.later hbw) hx
  have hr2 := fun (w' : World) (hbw : Below w.heap.size w w') => rRight_yes (h2.later hbw) hy
  have HR1 := Lib.hid hr1; clear hr1
  have HR2 := Lib.hid hr2; clear hr2
  have hnn : 0 ≤ ab x - ab y := by omega
  have hle : ab y ≤ ab x := by omega
  have hval : s1 * (ab x - ab y) = x + y := by rw [hs1, hs2] at hc; rw [hs1]; exact add_diff_a hc hlt
  have hls := fun (w' : World) (hbw : Below w.heap.size w w') => rless_any (D (ab x)) (D (ab y)) (.slice A1 n1 c1) (.slice A2 n2 c2) w' (bv_sv (h1.later hbw)).1 (bv_sv (h2.later hbw)).1 (Dig_D _) (Dig_D _) (by omega) (by omega) false (by rw [nv_D (ab_nonneg x), nv_D (ab_nonneg y)]; simp; omega)
  have hf := fun (w' : World) (hbw : Below w.heap.size w w') => rminus_any (D (ab x)) (D (ab y)) (.slice A1 n1 c1) (.slice A2 n2 c2) w' (bv_sv (h1.later hbw)).1 (bv_sv (h2.later hbw)).1 (Dig_D _) (Dig_D _) (by omega) (D_len_mono (ab_nonneg _) hle) (by rw [nv_D (ab_nonneg x), nv_D (ab_nonneg y)]; exact hle)
  rw [nv_D (ab_nonneg x), nv_D (ab_nonneg y)] at hf
  have hl3 : (D (ab x - ab y)).length ≤ 400 := by
    have := D_len_mono hnn (show ab x - ab y ≤ ab x by have := ab_nonneg y; omega)
    omega
  have hS3 : s1 = 1 ∨ s1 = -1 ∨ ab x - ab y = 0 := by
    have := sgn_bd x
    rw [← hs1] at this
    omega
  have hmd := fun (w' : World) (v : Value) (B : Nat) (h : OwnI w' B v (D (ab x - ab y))) => rmade_any (D (ab x - ab y)) s1 (x + y) v w' h.sv (Dig_D _) hl3 (by rw [nv_D hnn]; exact hval.symm) (by rw [nv_D hnn]; exact hS3)
  have q1 : (s1 == 0) = false := by simpa using hc.1
  have q2 : (s2 == 0) = false := by simpa using hc.2.1
  have q3 : (s1 == s2) = false := by simpa using hc.2.2
  have HFF := Lib.hid hf; clear hf
  have HMD := Lib.hid hmd; clear hmd
  have HLS := Lib.hid hls; clear hls
  obtain ⟨E, hE⟩ : ∃ E, fite (x + y) = E := ⟨_, rfl⟩
  obtain ⟨F, hF⟩ : ∃ E, fitz (x + y) = E := ⟨_, rfl⟩
  rw [hE, hF]
  have HZE := Lib.hid hE; clear hE
  have HZF := Lib.hid hF; clear hF
  clear hs1 hs2 hl1 hl2 hl3 h1 h2 hx hy hnn hS3 hval hle hlt hc
  obtain ⟨W, hW, hbx, k1, k2, kR, hsz⟩ := boxes3 w #[.int .i64 s1, .slice A1 n1 c1] #[.int .i64 s2, .slice A2 n2 c2] #[.int .i64 0, .slice none 0 0]
  go_enter Tryz.func8, Tryz.ntmps8
  go_wp2_with fail
  rw [← hW]
  clear hW hsz
  have hT := hbx
  have a0 := k1.cell 0
  have a1 := k1.cell 1
  simp at a0 a1
  go_wp2_with fail
  clear a0 a1
  (with_reducible refine (HR1.out _ hT).mono ?_)
  rintro e u1 ⟨rfl, hb9⟩
  have hT := hT.trans (hb9.mono hT.size)
  have k1 := k1.below hb9 k1.lt
  have k2 := k2.below hb9 k2.lt
  have kR := kR.below hb9 kR.lt
  have b0 := k2.cell 0
  have b1 := k2.cell 1
  simp at b0 b1
  go_wp2_with fail
  clear b0 b1
  (with_reducible refine (HR2.out _ hT).mono ?_)
  rintro e u ⟨rfl, hb9⟩
  have hT := hT.trans (hb9.mono hT.size)
  have k1 := k1.below hb9 k1.lt
  have k2 := k2.below hb9 k2.lt
  have kR := kR.below hb9 kR.lt
  have a0 := k1.cell 0
  have a1 := k1.cell 1
  have b0 := k2.cell 0
  have b1 := k2.cell 1
  simp at a0 a1 b0 b1
  go_wp2_with fail
  (with_reducible refine (HLS.out _ hT).mono ?_)
  rintro e u' ⟨rfl, rfl⟩
  go_upto_region 7 with fail
  clear a0 a1 b0 b1 q1 q2 q3
  obtain ⟨B, hB⟩ : ∃ B, w.heap.size + 1 + 1 = B := ⟨_, rfl⟩
  have hwB : w.heap.size + 1 < B := by omega
  have hBu : B ≤ u.heap.size := by have := kR.lt; omega
  rw [hB] at kR ⊢
  clear hB
  have kRl := kR.lt
  have kR := And.intro kR kRl
  clear kRl
  have hf := fun (w' : World) (hb : Below B u w') => HFF.out w' (hT.trans (hb.mono (by omega)))
  have HF := Lib.hid hf; clear hf HFF
  have e0 : ∀ W' : World, Below B u W' → W'.cell? ⟨w.heap.size, 0, none⟩ = some (.int .i64 s1) ∧ W'.cell? ⟨w.heap.size, 1, none⟩ = some (.slice A1 n1 c1) ∧ W'.cell? ⟨w.heap.size + 1, 0, none⟩ = some (.int .i64 s2) ∧ W'.cell? ⟨w.heap.size + 1, 1, none⟩ = some (.slice A2 n2 c2) ∧ Below B u W' := fun W' hW =>
    ⟨(k1.below hW (by omega)).cell 0, (k1.below hW (by omega)).cell 1, (k2.below hW (by omega)).cell 0, (k2.below hW (by omega)).cell 1, hW⟩
  have E0 := Lib.hid e0; clear e0
  have hB00 : Below B u u.drew := (Below.refl _ _).drew
  have hge : B ≤ B := Nat.le_refl _
  have HK2 := Lib.hid kR; clear kR
  clear k1 k2
  go_region_held3 (fun W' => W'.cell? ⟨w.heap.size, 0, none⟩ = some (.int .i64 s1) ∧ W'.cell? ⟨w.heap.size, 1, none⟩ = some (.slice A1 n1 c1) ∧ W'.cell? ⟨w.heap.size + 1, 0, none⟩ = some (.int .i64 s2) ∧ W'.cell? ⟨w.heap.size + 1, 1, none⟩ = some (.slice A2 n2 c2) ∧ Below B u W')
    (first | exact E0.out _ (below_st hB6 hge _ _) | exact E0.out _ (by assumption) | exact E0.out _ ⟨rfl, rfl, rfl, Nat.le_refl _, fun _ _ => rfl⟩)
    (first
      | (go_at_call 61; have _h := hr5; refine (rkept_any _ _ _ _ hr5).mono ?_; rintro e x6 ⟨r6, rfl, hr6, hb6⟩; have hB6 : Below B u x6 := hB5.trans (hb6.mono (Nat.le_trans hBu hB5.size)); rw [HZE.out]; rw [HZF.out] at hr6; obtain ⟨s6, A6, n6, c6, rfl⟩ := hr6.form; have kR6 := (HK2.out.1.below (hb4a.mono (Nat.le_refl _)) HK2.out.2).below (hb5.trans (hb6.mono hb5.size)) hlt5; have z0 := kR6.cell 0; have z1 := kR6.cell 1; have y0 := kR6.frozen 0; have y1 := kR6.frozen 1)
      | (go_at_call 62; have _h := hv4; refine (HMD.out _ _ _ hv4).mono ?_; rintro e x5 ⟨r5, rfl, hr5, hb5⟩; have hB5 : Below B u x5 := hB4.trans (hb5.mono (Nat.le_trans hBu hB4.size)))
      | (go_at_call 65; refine (HF.out _ hB00).mono ?_; rintro e x4 ⟨v4, rfl, hv4, hb4⟩; have hb4a : Below u.heap.size u x4 := ⟨hb4.os, hb4.tape, hb4.output, hb4.size, hb4.block⟩; have hB4 : Below B u x4 := hb4a.mono hBu; have hlt5 : B < x4.heap.size := Nat.lt_of_lt_of_le HK2.out.2 hb4a.size))
  have hbs := kR6.set2 (.int .i64 s6) (.slice A6 n6 c6)
  have x0 := hbs.cell 0
  have x1 := hbs.cell 1
  simp at x0 x1
  go_wp2_with fail
  refine bodyPost_ret (v := .tuple #[.agg #[.int .i64 s6, .slice A6 n6 c6], .int .i64 E]) (by simp [results, Tryz.results8, go_sem, x0, x1]) rfl ?_
  exact ⟨_, rfl, (hr6.far2 hlt5 _ _).mono (by have := HK2.out.2; have := hb4a.size; omega), below_st (hT.trans (hB6.mono (by omega))) (by omega) _ _⟩

/-- The reference's Add of two right big integers. -/
theorem raddb_any {s1 s2 : Int} {A1 A2 : Option Addr} {n1 c1 n2 c2 : Nat} {x y : Int} (w : World) (h1 : BV w w.heap.size (.agg #[.int .i64 s1, .slice A1 n1 c1]) x) (h2 : BV w w.heap.size (.agg #[.int .i64 s2, .slice A2 n2 c2]) y) (hx : ab x < pw 60) (hy : ab y < pw 60) :
    Calls Tryz.prog 8 #[.agg #[.int .i64 s1, .slice A1 n1 c1], .agg #[.int .i64 s2, .slice A2 n2 c2]] w fun e w' => ∃ r, e = .returned (.tuple #[r, .int .i64 (fite (x + y))]) ∧ BO w' w.heap.size r (fitz (x + y)) ∧ Below w.heap.size w w' := by
  by_cases hc : s1 = 0 ∨ s2 = 0 ∨ s1 = s2
  · exact radd_same w h1 h2 hx hy hc
  · by_cases hlt : ab x < ab y
    · exact radd_diff_b w h1 h2 hx hy ⟨by omega, by omega, by omega⟩ hlt
    · exact radd_diff_a w h1 h2 hx hy ⟨by omega, by omega, by omega⟩ hlt

end Go.Proofs.YtkjpfnbdlbnbkaaGreatDoor

namespace Go.Proofs.YtkjpfnbdlbnbkaaGreatDoor
open Go.RowKit

theorem of_step {l : List Int} {k : Nat} {X Z : Int} (hl : l.length = k) (h : nv l + pw k * X = Z) : nv (l ++ [X % 1048576]) + pw (k + 1) * (X / 1048576) = Z := by
  rw [nv_snoc, hl, pw_succ, ← h]
  have e1 : 1048576 * pw k * (X / 1048576) = pw k * (1048576 * (X / 1048576)) := by rw [Int.mul_comm 1048576, Int.mul_assoc]
  rw [e1]
  have e2 : pw k * (X % 1048576) + pw k * (1048576 * (X / 1048576)) = pw k * X := by rw [← Int.mul_add]; congr 1; omega
  omega
theorem of_neg_mod {X N : Int} (hX : 0 ≤ X) (hN : N = -X) : N.tmod 1048576 = -(X % 1048576) := by
  rw [hN, Int.neg_tmod, Int.tmod_eq_emod_of_nonneg hX]
theorem of_neg_div {X N : Int} (hX : 0 ≤ X) (hN : N = -X) : N.tdiv 1048576 = -(X / 1048576) := by
  rw [hN, Int.neg_tdiv, Int.tdiv_eq_ediv_of_nonneg hX]
theorem of_few {l : List Int} {k : Nat} {X Z : Int} (hd : Dig l) (h : nv l + pw k * X = Z) (hZ : Z ≤ 9223372036854775808) (hX : 0 < X) : k < 4 := by
  rcases Nat.lt_or_ge k 4 with g | g
  · exact g
  · have h1 := pw_le g
    have h2 := hd.nv_nonneg
    have h3 : pw k * 1 ≤ pw k * X := Int.mul_le_mul_of_nonneg_left (by omega) (by have := pw_pos k; omega)
    have h4 : pw 4 = 1208925819614629174706176 := by decide
    omega

set_option maxRecDepth 100000 in
set_option maxHeartbeats 4000000 in
theorem rof_any (z : Int) (w : World) (h0 : -9223372036854775808 ≤ z) (h1 : z ≤ 9223372036854775807) :
    Calls Tryz.prog 32 #[.int .i64 z] w fun e w' => ∃ r, e = .returned r ∧ BO w' w.heap.size r z ∧ Below w.heap.size w w' := by
  have hb0 := (Below.refl w.heap.size w).alloc (Nat.le_refl _) (.cells #[.int .i64 0, .slice none 0 0] 24)
  have k0 := Blk.new w 24 #[.int .i64 0, .slice none 0 0]
  have hs0 : (w.alloc (.cells #[.int .i64 0, .slice none 0 0] 24)).heap.size = w.heap.size + 1 := by simp
  obtain ⟨W, hW⟩ : ∃ W, w.alloc (.cells #[.int .i64 0, .slice none 0 0] 24) = W := ⟨_, rfl⟩
  have HWW := Lib.hid hW
  rw [hW] at hb0 k0 hs0
  clear hW
  have hlt : w.heap.size < W.heap.size := by omega
  rcases Int.lt_trichotomy z 0 with hz | hz | hz
  · have q1 : (z == 0) = false := by simpa using (show z ≠ 0 by omega)
    go_enter Tryz.func32, Tryz.ntmps32
    go_wp2_with fail
    rw [HWW.out]
    clear q1
    go_loopw [0, 4, 5] (fun nv' o dv wr => ∃ (k : Nat) (l : List Int) (X N : Int), nv' = .int .i64 N ∧ Hid (N = -X) ∧ 0 ≤ X ∧ OwnI wr W.heap.size o l ∧ Hid (l.length = k) ∧ Dig l ∧ Hid (nv l + pw k * X = -z) ∧ k ≤ 4 ∧ X ≤ 9223372036854775808 ∧ Below W.heap.size W wr) (fun nv' _ _ _ => (intOf nv').natAbs)
    case atStart => exact ⟨0, [], -z, z, rfl, Lib.hid (by omega), by omega, OwnI.nil _ _, Lib.hid rfl, Dig.nil, Lib.hid (by rw [nv_nil]; simp [pw]), by omega, by omega, Below.refl _ _⟩
    case round =>
      obtain ⟨k, l, X, N, rfl, hN, hX, hown, hlen, hdig, hv, hk, hXb, hbw⟩ := hrel
      have hs := hbw.size
      have hl9 : l.length ≤ 10000000 := by have := hlen.out; omega
      by_cases hgo : 0 < X
      · have hk4 := of_few hdig hv.out (by omega) hgo
        have hst := of_step hlen.out hv.out
        have hm : N.tmod 1048576 = -(X % 1048576) := of_neg_mod hX hN.out
        have hd : N.tdiv 1048576 = -(X / 1048576) := of_neg_div hX hN.out
        have hr0 := Int.emod_nonneg X (show (1048576 : Int) ≠ 0 by decide)
        have hr1 := Int.emod_lt_of_pos X (show (0 : Int) < 1048576 by decide)
        have hdn0 : 0 ≤ X / 1048576 := by omega
        have hdn1 : X / 1048576 < X := by omega
        have hNn : N.natAbs = X.toNat := by have := hN.out; omega
        obtain ⟨R, hR⟩ : ∃ R, X % 1048576 = R := ⟨_, rfl⟩
        obtain ⟨Y, hY⟩ : ∃ R, X / 1048576 = R := ⟨_, rfl⟩
        rw [hR] at hst hm hr0 hr1
        rw [hY] at hst hd hdn0 hdn1
        clear hR hY
        have q1 : (N != 0) = true := by have := hN.out; simp; omega
        have HST := Lib.hid hst; clear hst
        have HNN := Lib.hid hNn; clear hNn
        obtain ⟨M, hM⟩ : ∃ M, -R = M := ⟨_, rfl⟩
        obtain ⟨K, hK⟩ : ∃ M, -Y = M := ⟨_, rfl⟩
        rw [hM] at hm
        rw [hK] at hd
        have HM := Lib.hid hM; clear hM
        have HK := Lib.hid hK; clear hK
        have hKb : -9223372036854775808 ≤ K ∧ K ≤ 9223372036854775807 := by have := HK.out; omega
        have f1 : IntKind.i64.wrap K = K := IntWalk.i64_in _ hKb
        have f2 : IntKind.i64.wrap M = M := IntWalk.i64_in _ (by have := HM.out; omega)
        have f3 : IntKind.i64.wrap (-M) = -M := IntWalk.i64_in _ (by have := HM.out; omega)
        by_cases hM0 : M < 0
        · have q2 : decide (M < 0) = true := decide_eq_true hM0
          go_wp2_with (first
            | (at_builtin; refine appI rfl (.tmp 19) (.tmp 21) rfl W.heap.size _ l (-M) rfl hown rfl hl9 hs ?_; intro v1 w1 hown1 hb1))
          go_roundw
          case rel => exact ⟨k + 1, _, Y, K, rfl, Lib.hid (by have := HK.out; omega), hdn0, hown1, Lib.hid (by simp [hlen.out]), hdig.snoc (by have := HM.out; omega) (by have := HM.out; omega), Lib.hid (by rw [show -M = R by have := HM.out; omega]; exact HST.out), by omega, by omega, hbw.trans hb1⟩
          case measure => simp [intOf]; have := HK.out; have := HNN.out; omega
        · have hM00 : M = 0 := by have := HM.out; omega
          subst hM00
          go_wp2_with (first
            | (at_builtin; refine appI rfl (.tmp 19) (.tmp 21) rfl W.heap.size _ l 0 rfl hown rfl hl9 hs ?_; intro v1 w1 hown1 hb1))
          go_roundw
          case rel => exact ⟨k + 1, _, Y, K, rfl, Lib.hid (by have := HK.out; omega), hdn0, hown1, Lib.hid (by simp [hlen.out]), hdig.snoc (by have := HM.out; omega) (by have := HM.out; omega), Lib.hid (by rw [show (0 : Int) = R by have := HM.out; omega]; exact HST.out), by omega, by omega, hbw.trans hb1⟩
          case measure => simp [intOf]; have := HK.out; have := HNN.out; omega
      · have hX0 : X = 0 := by omega
        subst hX0
        have hN0 : N = 0 := by have := hN.out; omega
        subst hN0
        have hmd := rmade_any l (-1) z _ wr hown.sv hdig (by have := hlen.out; omega) (by have := hv.out; rw [Int.mul_zero] at this; omega) (.inr (.inl rfl))
        have HMD := Lib.hid hmd; clear hmd hown
        have hT := hb0.trans (hbw.mono hb0.size)
        have kR := k0.below hbw hlt
        have hltR := kR.lt
        clear hgo hN hv hlen
        go_wp2_with fail
        (with_reducible refine HMD.out.mono ?_)
        rintro e w5 ⟨r, rfl, hr, hb5⟩
        have hT := hT.trans (hb5.mono hT.size)
        have kR := kR.below hb5 hltR
        obtain ⟨s6, A6, n6, c6, rfl⟩ := hr.form
        have r0 := kR.cell 0
        have r1 := kR.cell 1
        have f0 := kR.frozen 0
        have f1 := kR.frozen 1
        simp at r0 r1
        have hbs := kR.set2 (.int .i64 s6) (.slice A6 n6 c6)
        have x0 := hbs.cell 0
        have x1 := hbs.cell 1
        simp at x0 x1
        go_wp2_with fail
        refine bodyPost_ret (v := .agg #[.int .i64 s6, .slice A6 n6 c6]) (by simp [results, Tryz.results32, go_sem, x0, x1]) rfl ?_
        exact ⟨_, rfl, (hr.far2 hltR _ _).mono (by omega), below_st hT (by omega) _ _⟩
  · subst hz
    go_enter Tryz.func32, Tryz.ntmps32
    go_wp2_with fail
    refine bodyPost_ret (v := .agg #[.int .i64 0, .slice none 0 0]) (by simp [results, Tryz.results32, go_sem]) rfl ?_
    exact ⟨_, rfl, BO.zero _ _, below_new (Below.refl _ _) _⟩
  · have q1 : (z == 0) = false := by simpa using (show z ≠ 0 by omega)
    go_enter Tryz.func32, Tryz.ntmps32
    go_wp2_with fail
    rw [HWW.out]
    clear q1
    go_loopw [0, 4, 5] (fun nv' o dv wr => ∃ (k : Nat) (l : List Int) (X N : Int), nv' = .int .i64 N ∧ Hid (N = X) ∧ 0 ≤ X ∧ OwnI wr W.heap.size o l ∧ Hid (l.length = k) ∧ Dig l ∧ Hid (nv l + pw k * X = z) ∧ k ≤ 4 ∧ X ≤ 9223372036854775808 ∧ Below W.heap.size W wr) (fun nv' _ _ _ => (intOf nv').natAbs)
    case atStart => exact ⟨0, [], z, z, rfl, Lib.hid (by omega), by omega, OwnI.nil _ _, Lib.hid rfl, Dig.nil, Lib.hid (by rw [nv_nil]; simp [pw]), by omega, by omega, Below.refl _ _⟩
    case round =>
      obtain ⟨k, l, X, N, rfl, hN, hX, hown, hlen, hdig, hv, hk, hXb, hbw⟩ := hrel
      have hs := hbw.size
      have hl9 : l.length ≤ 10000000 := by have := hlen.out; omega
      by_cases hgo : 0 < X
      · have hk4 := of_few hdig hv.out (by omega) hgo
        have hst := of_step hlen.out hv.out
        have hm : N.tmod 1048576 = X % 1048576 := by rw [hN.out]; exact Int.tmod_eq_emod_of_nonneg hX
        have hd : N.tdiv 1048576 = X / 1048576 := by rw [hN.out]; exact Int.tdiv_eq_ediv_of_nonneg hX
        have hr0 := Int.emod_nonneg X (show (1048576 : Int) ≠ 0 by decide)
        have hr1 := Int.emod_lt_of_pos X (show (0 : Int) < 1048576 by decide)
        have hdn0 : 0 ≤ X / 1048576 := by omega
        have hdn1 : X / 1048576 < X := by omega
        have hNn : N.natAbs = X.toNat := by have := hN.out; omega
        obtain ⟨R, hR⟩ : ∃ R, X % 1048576 = R := ⟨_, rfl⟩
        obtain ⟨Y, hY⟩ : ∃ R, X / 1048576 = R := ⟨_, rfl⟩
        rw [hR] at hst hm hr0 hr1
        rw [hY] at hst hd hdn0 hdn1
        clear hR hY
        have q1 : (N != 0) = true := by have := hN.out; simp; omega
        have HST := Lib.hid hst; clear hst
        have HNN := Lib.hid hNn; clear hNn
        obtain ⟨M, hM⟩ : ∃ M, R = M := ⟨_, rfl⟩
        obtain ⟨K, hK⟩ : ∃ M, Y = M := ⟨_, rfl⟩
        rw [hM] at hm
        rw [hK] at hd
        have HM := Lib.hid hM; clear hM
        have HK := Lib.hid hK; clear hK
        have hKb : -9223372036854775808 ≤ K ∧ K ≤ 9223372036854775807 := by have := HK.out; omega
        have f1 : IntKind.i64.wrap K = K := IntWalk.i64_in _ hKb
        have f2 : IntKind.i64.wrap M = M := IntWalk.i64_in _ (by have := HM.out; omega)
        have f3 : IntKind.i64.wrap (-M) = -M := IntWalk.i64_in _ (by have := HM.out; omega)
        · have q2 : decide (M < 0) = false := decide_eq_false (by have := HM.out; omega)
          go_wp2_with (first
            | (at_builtin; refine appI rfl (.tmp 19) (.tmp 21) rfl W.heap.size _ l M rfl hown rfl hl9 hs ?_; intro v1 w1 hown1 hb1))
          go_roundw
          case rel => exact ⟨k + 1, _, Y, K, rfl, Lib.hid (by have := HK.out; omega), hdn0, hown1, Lib.hid (by simp [hlen.out]), hdig.snoc (by have := HM.out; omega) (by have := HM.out; omega), Lib.hid (by rw [show M = R by have := HM.out; omega]; exact HST.out), by omega, by omega, hbw.trans hb1⟩
          case measure => simp [intOf]; have := HK.out; have := HNN.out; omega
      · have hX0 : X = 0 := by omega
        subst hX0
        have hN0 : N = 0 := by have := hN.out; omega
        subst hN0
        have hmd := rmade_any l (1) z _ wr hown.sv hdig (by have := hlen.out; omega) (by have := hv.out; rw [Int.mul_zero] at this; omega) (.inl rfl)
        have HMD := Lib.hid hmd; clear hmd hown
        have hT := hb0.trans (hbw.mono hb0.size)
        have kR := k0.below hbw hlt
        have hltR := kR.lt
        clear hgo hN hv hlen
        go_wp2_with fail
        (with_reducible refine HMD.out.mono ?_)
        rintro e w5 ⟨r, rfl, hr, hb5⟩
        have hT := hT.trans (hb5.mono hT.size)
        have kR := kR.below hb5 hltR
        obtain ⟨s6, A6, n6, c6, rfl⟩ := hr.form
        have r0 := kR.cell 0
        have r1 := kR.cell 1
        have f0 := kR.frozen 0
        have f1 := kR.frozen 1
        simp at r0 r1
        have hbs := kR.set2 (.int .i64 s6) (.slice A6 n6 c6)
        have x0 := hbs.cell 0
        have x1 := hbs.cell 1
        simp at x0 x1
        go_wp2_with fail
        refine bodyPost_ret (v := .agg #[.int .i64 s6, .slice A6 n6 c6]) (by simp [results, Tryz.results32, go_sem, x0, x1]) rfl ?_
        exact ⟨_, rfl, (hr.far2 hltR _ _).mono (by omega), below_st hT (by omega) _ _⟩

end Go.Proofs.YtkjpfnbdlbnbkaaGreatDoor

namespace Go.Proofs.YtkjpfnbdlbnbkaaGreatDoor
open Go.RowKit

/-- What is left to write of x's digits, and what is written. -/
def TxP (x X : Int) (S : List UInt8) : Prop := (0 < X ∧ Lib.decDigits x.toNat = Lib.decDigits X.toNat ++ S) ∨ (X = 0 ∧ Lib.decDigits x.toNat = S)
theorem TxP.start {x : Int} (h : 0 < x) : TxP x x [] := .inl ⟨h, by simp⟩
theorem TxP.step {x X : Int} {S : List UInt8} (h : TxP x X S) (hX : 0 < X) : TxP x (X / 10) (UInt8.ofNat (48 + (X % 10).toNat) :: S) := by
  rcases h with ⟨_, h⟩ | ⟨h, _⟩
  · have e1 : (X / 10).toNat = X.toNat / 10 := by omega
    have e2 : (X % 10).toNat = X.toNat % 10 := by omega
    by_cases g : X.toNat < 10
    · refine .inr ⟨by omega, ?_⟩
      rw [h, dd_lt g, e2, Nat.mod_eq_of_lt g]; rfl
    · refine .inl ⟨by omega, ?_⟩
      rw [h, dd_ge g, e1, e2, List.append_assoc]; rfl
  · omega
theorem TxP.done {x : Int} {S : List UInt8} (h : TxP x 0 S) : S = Lib.decDigits x.toNat := by
  rcases h with ⟨h, _⟩ | ⟨_, h⟩
  · omega
  · exact h.symm
theorem TxP.few {x X : Int} {S : List UInt8} (h : TxP x X S) : S.length ≤ (Lib.decDigits x.toNat).length := by
  rcases h with ⟨_, h⟩ | ⟨_, h⟩ <;> rw [h]
  · rw [List.length_append]; omega
  · exact Nat.le_refl _

set_option maxRecDepth 100000 in
set_option maxHeartbeats 8000000 in
theorem rtext4_any {s : Int} {A : Option Addr} {n c : Nat} (z : Int) (w : World) (h : BV w w.heap.size (.agg #[.int .i64 s, .slice A n c]) z) (hz : ab z < pw 60) :
    Calls Tryz.prog 28 #[.agg #[.int .i64 s, .slice A n c]] w fun e w' => e = .returned (.string (byt (Lib.itoa z))) ∧ Below w.heap.size w w' := by
  have hX0 : 0 ≤ ab z := ab_nonneg z
  have hlen := dd_len_pw 60 (by omega) (ab z) hX0 hz
  obtain ⟨hsv, hsg, hnn⟩ := bv_sv h
  have hb0 := (Below.refl w.heap.size w).alloc (Nat.le_refl _) (.cells #[.int .i64 s, .slice A n c] 24)
  have k0 := Blk.new w 24 #[.int .i64 s, .slice A n c]
  have hs0 : (w.alloc (.cells #[.int .i64 s, .slice A n c] 24)).heap.size = w.heap.size + 1 := by simp
  have hrt := fun (w' : World) (hb : Below w.heap.size w w') => rRight_yes (h.later hb) hz
  have hsl := fun (w' : World) (hb : Below w.heap.size w w') => (bv_sv (h.later hb)).1
  obtain ⟨W, hW⟩ : ∃ W, w.alloc (.cells #[.int .i64 s, .slice A n c] 24) = W := ⟨_, rfl⟩
  have HWW := Lib.hid hW
  rw [hW] at hb0 k0 hs0
  have hlt : w.heap.size < W.heap.size := by omega
  have HRT := Lib.hid hrt; clear hrt
  have HSL := Lib.hid hsl; clear hsl
  have HLEN := Lib.hid hlen; clear hlen
  have HZ := Lib.hid hz; clear hz
  have HSG := Lib.hid hsg; clear hsg
  have HNL := Lib.hid hnn; clear hnn
  clear hW h hsv
  by_cases hz0 : z = 0
  · subst hz0
    have hs : s = 0 := HSG.out
    subst hs
    go_enter Tryz.func28, Tryz.ntmps28
    go_wp2_with fail
    rw [HWW.out]
    (with_reducible refine (HRT.out _ hb0).mono ?_)
    rintro e w1 ⟨rfl, hb1⟩
    have hT := hb0.trans (hb1.mono hb0.size)
    have k1 := k0.below hb1 hlt
    have a0 := k1.cell 0
    have a1 := k1.cell 1
    simp at a0 a1
    go_wp2_with fail
    go_ret
    exact ⟨by rw [show byt (Lib.itoa 0) = ⟨#[48]⟩ from by rw [itoa_ab, if_neg (by decide), show (ab 0).toNat = 0 from rfl, dd_lt (by decide)]; rfl]; rfl, hT⟩
  · have hs : (s == 0) = false := by have := HSG.out; rw [this]; unfold sgn; split <;> (try split) <;> simp <;> omega
    have hp : 0 < ab z := by unfold ab; omega
    go_enter Tryz.func28, Tryz.ntmps28
    go_wp2_with fail
    rw [HWW.out]
    (with_reducible refine (HRT.out _ hb0).mono ?_)
    rintro e w1 ⟨rfl, hb1⟩
    have hT := hb0.trans (hb1.mono hb0.size)
    have k1 := k0.below hb1 hlt
    have a0 := k1.cell 0
    have a1 := k1.cell 1
    simp at a0 a1
    go_wp2_with fail
    clear hs
    go_loopg [3, 4] (ab z).toNat (fun g sv lv wr => ∃ (X : Int) (S : List UInt8), g = X.toNat ∧ 0 ≤ X ∧ X ≤ ab z ∧ sv = .string (byt S) ∧ Sv wr lv (D X) ∧ Hid (TxP (ab z) X S) ∧ Below w1.heap.size w1 wr)
    case atStart => exact ⟨ab z, [], rfl, hX0, Int.le_refl _, rfl, HSL.out _ hT, Lib.hid (TxP.start hp), Below.refl _ _⟩
    case round =>
      obtain ⟨X, S, hg, hXX, hXz, rfl, hl, htx, hb⟩ := hrel
      have hsb := hb.size
      have hfew := htx.out.few
      have hSl : S.length ≤ 100000 := by have := HLEN.out; omega
      by_cases hX : 0 < X
      · have htn := rtenth_any (D X) _ wr hl (Dig_D _) (by have := (D_len_le hXX).2 (Int.lt_of_le_of_lt hXz HZ.out); omega)
        rw [nv_D hXX] at htn
        have hlp := D_len_pos hX
        have hst := htx.out.step hX
        have hm0 : 0 ≤ X % 10 ∧ X % 10 < 10 := by omega
        have hq : 0 ≤ X / 10 ∧ X / 10 < X := by omega
        obtain ⟨m, hm⟩ : ∃ m, X % 10 = m := ⟨_, rfl⟩
        obtain ⟨Y, hY⟩ : ∃ m, X / 10 = m := ⟨_, rfl⟩
        rw [hm] at htn hst hm0
        rw [hY] at htn hst hq
        obtain ⟨hq0, hq1⟩ := hq
        obtain ⟨A1, c1, rfl, _, _, _⟩ := hl
        obtain ⟨k, hk⟩ : ∃ k, (D X).length = k := ⟨_, rfl⟩
        rw [hk] at htn hlp ⊢
        have HTN := Lib.hid htn; clear htn
        have HST := Lib.hid hst; clear hst
        have HG := Lib.hid hg; clear hg
        have hms : m = 0 ∨ m = 1 ∨ m = 2 ∨ m = 3 ∨ m = 4 ∨ m = 5 ∨ m = 6 ∨ m = 7 ∨ m = 8 ∨ m = 9 := by omega
        clear hm hY hk hm0
        go_wp2_with fail
        (with_reducible refine HTN.out.mono ?_)
        rintro e w5 ⟨v1, r, rfl, hv1, rfl, hb5⟩
        have hadd : ∀ (d : Nat) w', (Op.stringOp .add ⟨#[UInt8.ofNat (48 + d)]⟩ (byt S)).run Tryz.prog w' = .ok (.string (byt (UInt8.ofNat (48 + d) :: S))) w' := fun d w' => by
          rw [run_string_add_sum w' _ _ (by rw [byt_size]; show 1 + S.length ≤ 9223372036854775807; omega)]
          rw [show byt (UInt8.ofNat (48 + d) :: S) = byt [UInt8.ofNat (48 + d)] ++ byt S from (byt_app [_] S).symm]; rfl
        have HADD := Lib.hid hadd; clear hadd
        rcases hms with rfl | rfl | rfl | rfl | rfl | rfl | rfl | rfl | rfl | rfl
        · have hadd := HADD.out 0
          simp only [show UInt8.ofNat (48 + 0) = 48 from rfl] at hadd
          have hsl : ∀ wx, (Instr.slice 9 (.string ⟨#[48, 49, 50, 51, 52, 53, 54, 55, 56, 57]⟩) (some (.int .i64 0)) (some (.int .i64 1)) none).run Tryz.prog wx = .ok (.string ⟨#[48]⟩) wx := fun wx => by
            rw [run_slice_string (h := Tryz.underlying9) (h0 := by decide) (h1 := by decide) (h2 := by decide)]; rfl
          have hst := HST.out
          simp only [show UInt8.ofNat (48 + (0 : Int).toNat) = 48 from rfl] at hst
          have HSTD := Lib.hid hst; clear hst
          go_wp2_with fail
          go_roundg Y.toNat
          case measure => have := HG.out; omega
          case rel => exact ⟨Y, _, rfl, hq0, by omega, rfl, hv1.sv, HSTD, hb.trans (hb5.mono hsb)⟩
        · have hadd := HADD.out 1
          simp only [show UInt8.ofNat (48 + 1) = 49 from rfl] at hadd
          have hsl : ∀ wx, (Instr.slice 9 (.string ⟨#[48, 49, 50, 51, 52, 53, 54, 55, 56, 57]⟩) (some (.int .i64 1)) (some (.int .i64 2)) none).run Tryz.prog wx = .ok (.string ⟨#[49]⟩) wx := fun wx => by
            rw [run_slice_string (h := Tryz.underlying9) (h0 := by decide) (h1 := by decide) (h2 := by decide)]; rfl
          have hst := HST.out
          simp only [show UInt8.ofNat (48 + (1 : Int).toNat) = 49 from rfl] at hst
          have HSTD := Lib.hid hst; clear hst
          go_wp2_with fail
          go_roundg Y.toNat
          case measure => have := HG.out; omega
          case rel => exact ⟨Y, _, rfl, hq0, by omega, rfl, hv1.sv, HSTD, hb.trans (hb5.mono hsb)⟩
        · have hadd := HADD.out 2
          simp only [show UInt8.ofNat (48 + 2) = 50 from rfl] at hadd
          have hsl : ∀ wx, (Instr.slice 9 (.string ⟨#[48, 49, 50, 51, 52, 53, 54, 55, 56, 57]⟩) (some (.int .i64 2)) (some (.int .i64 3)) none).run Tryz.prog wx = .ok (.string ⟨#[50]⟩) wx := fun wx => by
            rw [run_slice_string (h := Tryz.underlying9) (h0 := by decide) (h1 := by decide) (h2 := by decide)]; rfl
          have hst := HST.out
          simp only [show UInt8.ofNat (48 + (2 : Int).toNat) = 50 from rfl] at hst
          have HSTD := Lib.hid hst; clear hst
          go_wp2_with fail
          go_roundg Y.toNat
          case measure => have := HG.out; omega
          case rel => exact ⟨Y, _, rfl, hq0, by omega, rfl, hv1.sv, HSTD, hb.trans (hb5.mono hsb)⟩
        · have hadd := HADD.out 3
          simp only [show UInt8.ofNat (48 + 3) = 51 from rfl] at hadd
          have hsl : ∀ wx, (Instr.slice 9 (.string ⟨#[48, 49, 50, 51, 52, 53, 54, 55, 56, 57]⟩) (some (.int .i64 3)) (some (.int .i64 4)) none).run Tryz.prog wx = .ok (.string ⟨#[51]⟩) wx := fun wx => by
            rw [run_slice_string (h := Tryz.underlying9) (h0 := by decide) (h1 := by decide) (h2 := by decide)]; rfl
          have hst := HST.out
          simp only [show UInt8.ofNat (48 + (3 : Int).toNat) = 51 from rfl] at hst
          have HSTD := Lib.hid hst; clear hst
          go_wp2_with fail
          go_roundg Y.toNat
          case measure => have := HG.out; omega
          case rel => exact ⟨Y, _, rfl, hq0, by omega, rfl, hv1.sv, HSTD, hb.trans (hb5.mono hsb)⟩
        · have hadd := HADD.out 4
          simp only [show UInt8.ofNat (48 + 4) = 52 from rfl] at hadd
          have hsl : ∀ wx, (Instr.slice 9 (.string ⟨#[48, 49, 50, 51, 52, 53, 54, 55, 56, 57]⟩) (some (.int .i64 4)) (some (.int .i64 5)) none).run Tryz.prog wx = .ok (.string ⟨#[52]⟩) wx := fun wx => by
            rw [run_slice_string (h := Tryz.underlying9) (h0 := by decide) (h1 := by decide) (h2 := by decide)]; rfl
          have hst := HST.out
          simp only [show UInt8.ofNat (48 + (4 : Int).toNat) = 52 from rfl] at hst
          have HSTD := Lib.hid hst; clear hst
          go_wp2_with fail
          go_roundg Y.toNat
          case measure => have := HG.out; omega
          case rel => exact ⟨Y, _, rfl, hq0, by omega, rfl, hv1.sv, HSTD, hb.trans (hb5.mono hsb)⟩
        · have hadd := HADD.out 5
          simp only [show UInt8.ofNat (48 + 5) = 53 from rfl] at hadd
          have hsl : ∀ wx, (Instr.slice 9 (.string ⟨#[48, 49, 50, 51, 52, 53, 54, 55, 56, 57]⟩) (some (.int .i64 5)) (some (.int .i64 6)) none).run Tryz.prog wx = .ok (.string ⟨#[53]⟩) wx := fun wx => by
            rw [run_slice_string (h := Tryz.underlying9) (h0 := by decide) (h1 := by decide) (h2 := by decide)]; rfl
          have hst := HST.out
          simp only [show UInt8.ofNat (48 + (5 : Int).toNat) = 53 from rfl] at hst
          have HSTD := Lib.hid hst; clear hst
          go_wp2_with fail
          go_roundg Y.toNat
          case measure => have := HG.out; omega
          case rel => exact ⟨Y, _, rfl, hq0, by omega, rfl, hv1.sv, HSTD, hb.trans (hb5.mono hsb)⟩
        · have hadd := HADD.out 6
          simp only [show UInt8.ofNat (48 + 6) = 54 from rfl] at hadd
          have hsl : ∀ wx, (Instr.slice 9 (.string ⟨#[48, 49, 50, 51, 52, 53, 54, 55, 56, 57]⟩) (some (.int .i64 6)) (some (.int .i64 7)) none).run Tryz.prog wx = .ok (.string ⟨#[54]⟩) wx := fun wx => by
            rw [run_slice_string (h := Tryz.underlying9) (h0 := by decide) (h1 := by decide) (h2 := by decide)]; rfl
          have hst := HST.out
          simp only [show UInt8.ofNat (48 + (6 : Int).toNat) = 54 from rfl] at hst
          have HSTD := Lib.hid hst; clear hst
          go_wp2_with fail
          go_roundg Y.toNat
          case measure => have := HG.out; omega
          case rel => exact ⟨Y, _, rfl, hq0, by omega, rfl, hv1.sv, HSTD, hb.trans (hb5.mono hsb)⟩
        · have hadd := HADD.out 7
          simp only [show UInt8.ofNat (48 + 7) = 55 from rfl] at hadd
          have hsl : ∀ wx, (Instr.slice 9 (.string ⟨#[48, 49, 50, 51, 52, 53, 54, 55, 56, 57]⟩) (some (.int .i64 7)) (some (.int .i64 8)) none).run Tryz.prog wx = .ok (.string ⟨#[55]⟩) wx := fun wx => by
            rw [run_slice_string (h := Tryz.underlying9) (h0 := by decide) (h1 := by decide) (h2 := by decide)]; rfl
          have hst := HST.out
          simp only [show UInt8.ofNat (48 + (7 : Int).toNat) = 55 from rfl] at hst
          have HSTD := Lib.hid hst; clear hst
          go_wp2_with fail
          go_roundg Y.toNat
          case measure => have := HG.out; omega
          case rel => exact ⟨Y, _, rfl, hq0, by omega, rfl, hv1.sv, HSTD, hb.trans (hb5.mono hsb)⟩
        · have hadd := HADD.out 8
          simp only [show UInt8.ofNat (48 + 8) = 56 from rfl] at hadd
          have hsl : ∀ wx, (Instr.slice 9 (.string ⟨#[48, 49, 50, 51, 52, 53, 54, 55, 56, 57]⟩) (some (.int .i64 8)) (some (.int .i64 9)) none).run Tryz.prog wx = .ok (.string ⟨#[56]⟩) wx := fun wx => by
            rw [run_slice_string (h := Tryz.underlying9) (h0 := by decide) (h1 := by decide) (h2 := by decide)]; rfl
          have hst := HST.out
          simp only [show UInt8.ofNat (48 + (8 : Int).toNat) = 56 from rfl] at hst
          have HSTD := Lib.hid hst; clear hst
          go_wp2_with fail
          go_roundg Y.toNat
          case measure => have := HG.out; omega
          case rel => exact ⟨Y, _, rfl, hq0, by omega, rfl, hv1.sv, HSTD, hb.trans (hb5.mono hsb)⟩
        · have hadd := HADD.out 9
          simp only [show UInt8.ofNat (48 + 9) = 57 from rfl] at hadd
          have hsl : ∀ wx, (Instr.slice 9 (.string ⟨#[48, 49, 50, 51, 52, 53, 54, 55, 56, 57]⟩) (some (.int .i64 9)) (some (.int .i64 10)) none).run Tryz.prog wx = .ok (.string ⟨#[57]⟩) wx := fun wx => by
            rw [run_slice_string (h := Tryz.underlying9) (h0 := by decide) (h1 := by decide) (h2 := by decide)]; rfl
          have hst := HST.out
          simp only [show UInt8.ofNat (48 + (9 : Int).toNat) = 57 from rfl] at hst
          have HSTD := Lib.hid hst; clear hst
          go_wp2_with fail
          go_roundg Y.toNat
          case measure => have := HG.out; omega
          case rel => exact ⟨Y, _, rfl, hq0, by omega, rfl, hv1.sv, HSTD, hb.trans (hb5.mono hsb)⟩
      · have hX0 : X = 0 := by omega
        subst hX0
        have hS := htx.out.done
        have HS := Lib.hid hS; clear hS
        obtain ⟨A1, c1, rfl, _, _, _⟩ := hl
        obtain ⟨k, hk⟩ : ∃ n, (D 0).length = n := ⟨_, rfl⟩
        have hk0 : k = 0 := by rw [← hk, D_zero]; rfl
        rw [hk]
        subst hk0
        have hT := hT.trans (hb.mono hT.size)
        have k2 := k1.below hb k1.lt
        have a0 := k2.cell 0
        have a1 := k2.cell 1
        simp at a0 a1
        by_cases hneg : z < 0
        · have hsn : s = -1 := by rw [HSG.out]; exact sgn_of_neg hneg
          subst hsn
          have hadd : ∀ w', (Op.stringOp .add ⟨#[45]⟩ (byt S)).run Tryz.prog w' = .ok (.string (byt (Lib.itoa z))) w' := fun w' => by
            rw [run_string_add_sum w' _ _ (by rw [byt_size]; show 1 + S.length ≤ 9223372036854775807; omega)]
            rw [itoa_ab, if_pos hneg, ← HS.out, ← byt_app]; rfl
          clear hk
          go_wp2_with fail
          go_ret
          exact ⟨rfl, hT⟩
        · have hsn : s = 1 := by rw [HSG.out]; exact sgn_pos (by omega)
          subst hsn
          have he : byt S = byt (Lib.itoa z) := by rw [itoa_ab, if_neg hneg, HS.out]; rfl
          clear hk
          go_wp2_with fail
          go_ret
          exact ⟨rfl, hT⟩

end Go.Proofs.YtkjpfnbdlbnbkaaGreatDoor
