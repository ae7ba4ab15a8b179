/- Walks: the reference's Compare. Walks: the reference's Mul. Printed by a program (rref.py). Walks: the reference's Add of the same sign. Printed by a program (rref.py). -/
import Derived.Test.YtkjpfnbdlbnbkaaGreatDoorXaq
import Derived.Test.YtkjpfnbdlbnbkaaGreatDoorXan
import Derived.Deep.RegionHeld3
import Derived.IntWalk

namespace Go.Proofs.YtkjpfnbdlbnbkaaGreatDoor
open Go.RowKit

theorem cmp_res {x y : Int} (hne : x ≠ y) (hs : sgn x = sgn y) (b : Bool) (hb : b = decide (ab x < ab y)) : Lib.compareInt x y = if b = decide (0 < sgn x) then -1 else 1 := by
  subst hb
  have hx : x < 0 ∨ 0 < x := by
    rcases Int.lt_trichotomy x 0 with h | h | h
    · exact .inl h
    · exfalso
      subst h
      rw [sgn_zero] at hs
      unfold sgn at hs
      split at hs
      · omega
      · split at hs <;> omega
    · exact .inr h
  rcases hx with h | h
  · rw [sgn_of_neg h] at hs ⊢
    have hy : y < 0 := by unfold sgn at hs; split at hs; assumption; split at hs <;> omega
    rw [show decide ((0 : Int) < -1) = false from rfl]
    rcases Int.lt_or_gt_of_ne hne with g | g
    · rw [cmp_of_lt g, if_pos (decide_eq_false (by unfold ab; omega))]
    · rw [cmp_of_gt g, if_neg (by simp; unfold ab; omega)]
  · rw [sgn_pos h] at hs ⊢
    have hy : 0 < y := by unfold sgn at hs; split at hs; omega; split at hs <;> omega
    rw [show decide ((0 : Int) < 1) = true from rfl]
    rcases Int.lt_or_gt_of_ne hne with g | g
    · rw [cmp_of_lt g, if_pos (decide_eq_true (by unfold ab; omega))]
    · rw [cmp_of_gt g, if_neg (by simp; unfold ab; omega)]

set_option maxRecDepth 100000 in
set_option maxHeartbeats 4000000 in
theorem rcmp_any {s1 s2 : Int} {A1 A2 : Option Addr} {n1 c1 n2 c2 : Nat} {x y : Int} (w : World) (h1 : BV w w.heap.size (.agg #[.int .i64 s1, .slice A1 n1 c1]) x) (h2 : BV w w.heap.size (.agg #[.int .i64 s2, .slice A2 n2 c2]) y) (hx : ab x < pw 60) (hy : ab y < pw 60) :
    Calls Tryz.prog 25 #[.agg #[.int .i64 s1, .slice A1 n1 c1], .agg #[.int .i64 s2, .slice A2 n2 c2]] w fun e w' => e = .returned (.int .i64 (Lib.compareInt x y)) ∧ Below w.heap.size w w' := by
  have hs1 := (bv_sv h1).2.1
  have hs2 := (bv_sv h2).2.1
  have hsg : s1 ≠ s2 → Lib.compareInt x y = if s1 < s2 then -1 else 1 := fun h => by
    rw [hs1, hs2] at h ⊢
    rw [← compare_sgn h]
    rcases Int.lt_or_gt_of_ne h with g | g
    · rw [cmp_of_lt g, if_pos g]
    · rw [cmp_of_gt g, if_neg (by omega)]
  have hsm : x ≠ y → s1 = s2 → ∀ b : Bool, b = decide (ab x < ab y) → Lib.compareInt x y = if b = decide (0 < s1) then -1 else 1 := fun h1 h2 b hb => by
    rw [hs1]; rw [hs1, hs2] at h2; exact cmp_res h1 h2 b hb
  have heq : x = y → Lib.compareInt x y = 0 := cmp_of_eq
  obtain ⟨C, hC⟩ : ∃ C, Lib.compareInt x y = C := ⟨_, rfl⟩
  rw [hC] at hsg hsm heq ⊢
  have HEQ := Lib.hid heq; clear heq hC
  have hl1 : (D (ab x)).length ≤ 1000 := by have := (D_len_le (ab_nonneg x)).2 hx; omega
  have hl2 : (D (ab y)).length ≤ 1000 := by have := (D_len_le (ab_nonneg y)).2 hy; omega
  obtain ⟨b, hb⟩ : ∃ b, decide (ab x < ab y) = b := ⟨_, rfl⟩
  have hls := fun (w' : World) (hbw : Below w.heap.size w w') => rless_any (D (ab x)) (D (ab y)) (.slice A1 n1 c1) (.slice A2 n2 c2) w' (bv_sv (h1.later hbw)).1 (bv_sv (h2.later hbw)).1 (Dig_D _) (Dig_D _) hl1 hl2 b (by rw [nv_D (ab_nonneg x), nv_D (ab_nonneg y)]; exact hb.symm)
  have hr1 := fun (w' : World) (hbw : Below w.heap.size w w') => rRight_yes (h1.later hbw) hx
  have hr2 := fun (w' : World) (hbw : Below w.heap.size w w') => rRight_yes (h2.later hbw) hy
  have hsa := fun (w' : World) (hbw : Below w.heap.size w w') => refSame_any x y _ _ w' (h1.later hbw) (h2.later hbw)
  have HLS := Lib.hid hls; clear hls
  have HR1 := Lib.hid hr1; clear hr1
  have HR2 := Lib.hid hr2; clear hr2
  have HSA := Lib.hid hsa; clear hsa
  have HSG := Lib.hid hsg; clear hsg
  have HSM := Lib.hid hsm; clear hsm
  have HB := Lib.hid hb; clear hb
  clear hs1 hs2 hl1 hl2 h1 h2 hx hy
  obtain ⟨W, hW, hbx, k1, k2, hsz⟩ := boxes2 w #[.int .i64 s1, .slice A1 n1 c1] #[.int .i64 s2, .slice A2 n2 c2]
  go_enter Tryz.func25, Tryz.ntmps25
  go_wp2_with fail
  rw [← hW]
  clear hW hsz
  have hT := hbx
  have a0 := k1.cell 0
  have a1 := k1.cell 1
  simp at a0 a1
  go_wp2_with fail
  clear a0 a1
  (with_reducible refine (HR1.out _ hT).mono ?_)
  rintro e u1 ⟨rfl, hb9⟩
  have hT := hT.trans (hb9.mono hT.size)
  have k1 := k1.below hb9 k1.lt
  have k2 := k2.below hb9 k2.lt
  have b0 := k2.cell 0
  have b1 := k2.cell 1
  simp at b0 b1
  go_wp2_with fail
  clear b0 b1
  (with_reducible refine (HR2.out _ hT).mono ?_)
  rintro e u2 ⟨rfl, hb9⟩
  have hT := hT.trans (hb9.mono hT.size)
  have k1 := k1.below hb9 k1.lt
  have k2 := k2.below hb9 k2.lt
  have a0 := k1.cell 0
  have a1 := k1.cell 1
  have b0 := k2.cell 0
  have b1 := k2.cell 1
  simp at a0 a1 b0 b1
  go_wp2_with fail
  clear a0 a1 b0 b1
  (with_reducible refine (HSA.out _ hT).mono ?_)
  rintro e u3 ⟨rfl, hb9⟩
  have hT := hT.trans (hb9.mono hT.size)
  have k1 := k1.below hb9 k1.lt
  have k2 := k2.below hb9 k2.lt
  by_cases hxy : x = y
  · rw [decide_eq_true hxy]
    have hc0 := HEQ.out hxy
    subst hc0
    clear hxy
    go_wp2_with fail
    go_ret
    exact ⟨rfl, hT⟩
  rw [decide_eq_false hxy]
  have a0 := k1.cell 0
  have a1 := k1.cell 1
  have b0 := k2.cell 0
  have b1 := k2.cell 1
  simp at a0 a1 b0 b1
  by_cases hss : s1 = s2
  · have hr := HSM.out hxy hss b HB.out.symm
    subst hss
    have hdc := fun nq => (HLS.out (u3.drewN nq) (below_dr hT nq)).mono fun _ _ h => (⟨h.1, h.2.symm⟩ : _ ∧ _ = _)
    have HDC := Lib.hid hdc; clear hdc hxy HSM HSG
    by_cases hp : 0 < s1
    · have d1 : decide (0 < s1) = true := decide_eq_true hp
      rw [d1] at hr
      rcases b with _ | _
      all_goals
        simp only [reduceCtorEq, if_false, if_true] at hr
        subst hr
        go_wp2_with fail
        go_quiet ((go_at_call 64; exact Calls.quiet_of_same (HDC.out _)))
        go_wp2_with fail
        go_ret
        exact ⟨rfl, below_dr hT _⟩
    · have d1 : decide (0 < s1) = false := decide_eq_false hp
      rw [d1] at hr
      rcases b with _ | _
      all_goals
        simp only [reduceCtorEq, if_false, if_true] at hr
        subst hr
        go_wp2_with fail
        go_quiet ((go_at_call 64; exact Calls.quiet_of_same (HDC.out _)))
        go_wp2_with fail
        go_ret
        exact ⟨rfl, below_dr hT _⟩
  · have hr := HSG.out hss
    have d0 : (s1 != s2) = true := by simpa using hss
    by_cases hlt : s1 < s2
    · have d1 : decide (s1 < s2) = true := decide_eq_true hlt
      rw [if_pos hlt] at hr
      subst hr
      clear hss hlt hxy
      go_wp2_with fail
      go_ret
      exact ⟨rfl, hT⟩
    · have d1 : decide (s1 < s2) = false := decide_eq_false hlt
      rw [if_neg hlt] at hr
      subst hr
      clear hss hlt hxy
      go_wp2_with fail
      go_ret
      exact ⟨rfl, hT⟩

end Go.Proofs.YtkjpfnbdlbnbkaaGreatDoor

namespace Go.Proofs.YtkjpfnbdlbnbkaaGreatDoor
open Go.RowKit

set_option maxRecDepth 100000 in
set_option maxHeartbeats 8000000 in
theorem rmulb_any {s1 s2 : Int} {A1 A2 : Option Addr} {n1 c1 n2 c2 : Nat} {x y : Int} (w : World) (h1 : BV w w.heap.size (.agg #[.int .i64 s1, .slice A1 n1 c1]) x) (h2 : BV w w.heap.size (.agg #[.int .i64 s2, .slice A2 n2 c2]) y) (hx : ab x < pw 60) (hy : ab y < pw 60) :
    Calls Tryz.prog 12 #[.agg #[.int .i64 s1, .slice A1 n1 c1], .agg #[.int .i64 s2, .slice A2 n2 c2]] w fun e w' => ∃ r, e = .returned (.tuple #[r, .int .i64 (fite (x * y))]) ∧ BO w' w.heap.size r (fitz (x * y)) ∧ Below w.heap.size w w' := by
  have hs1 := (bv_sv h1).2.1
  have hs2 := (bv_sv h2).2.1
  have hl1 : (D (ab x)).length ≤ 60 := (D_len_le (ab_nonneg x)).2 hx
  have hl2 : (D (ab y)).length ≤ 60 := (D_len_le (ab_nonneg y)).2 hy
  have hr1 := fun (w' : World) (hbw : Below w.heap.size w w') => rRight_yes (h1.later hbw) hx
  have hr2 := fun (w' : World) (hbw : Below w.heap.size w w') => rRight_yes (h2.later hbw) hy
  have HR1 := Lib.hid hr1; clear hr1
  have HR2 := Lib.hid hr2; clear hr2
  have hsb1 := sgn_bd x
  have hsb2 := sgn_bd y
  have hf := fun (w' : World) (hbw : Below w.heap.size w w') => rtimes_any (D (ab x)) (D (ab y)) (.slice A1 n1 c1) (.slice A2 n2 c2) w' (bv_sv (h1.later hbw)).1 (bv_sv (h2.later hbw)).1 (Dig_D _) (Dig_D _) (by omega) (by omega)
  rw [nv_D (ab_nonneg x), nv_D (ab_nonneg y), ← ab_mul] at hf
  have hmul : IntKind.i64.wrap (s1 * s2) = s1 * s2 := by
    rw [hs1, hs2]
    refine IntWalk.i64_in _ ?_
    have h1 : sgn x = -1 ∨ sgn x = 0 ∨ sgn x = 1 := by omega
    have h2 : sgn y = -1 ∨ sgn y = 0 ∨ sgn y = 1 := by omega
    rcases h1 with h | h | h <;> rcases h2 with h' | h' | h' <;> rw [h, h'] <;> decide
  have hss : s1 * s2 = sgn (x * y) := by rw [hs1, hs2, sgn_mul]
  have hmu2 := hmul.trans hss
  clear hmul
  have hmul := hmu2
  clear hmu2
  have hl3 : (D (ab (x * y))).length ≤ 400 := (D_len_le (ab_nonneg _)).2 (by
    have := ab_mul_lt hx hy rfl
    have := pw_le (show 60 + 60 ≤ 400 by omega)
    omega)
  have hmd := fun (w' : World) (v : Value) (B : Nat) (h : OwnI w' B v (D (ab (x * y)))) => rmade_any (D (ab (x * y))) (sgn (x * y)) (x * y) v w' h.sv (Dig_D _) hl3 (sgn_nv _).symm (sgn_or _)
  have HFF := Lib.hid hf; clear hf
  have HMD := Lib.hid hmd; clear hmd
  obtain ⟨E, hE⟩ : ∃ E, fite (x * y) = E := ⟨_, rfl⟩
  obtain ⟨F, hF⟩ : ∃ E, fitz (x * y) = E := ⟨_, rfl⟩
  rw [hE, hF]
  have HZE := Lib.hid hE; clear hE
  have HZF := Lib.hid hF; clear hF
  obtain ⟨S, hS⟩ : ∃ S, sgn (x * y) = S := ⟨_, rfl⟩
  rw [hS] at hmul hss HMD
  have HSS := Lib.hid hss; clear hss hS
  have HMUL := Lib.hid hmul; clear hmul
  clear hs1 hs2 hsb1 hsb2 hl1 hl2 hl3 h1 h2 hx hy
  obtain ⟨W, hW, hbx, k1, k2, kR, hsz⟩ := boxes3 w #[.int .i64 s1, .slice A1 n1 c1] #[.int .i64 s2, .slice A2 n2 c2] #[.int .i64 0, .slice none 0 0]
  go_enter Tryz.func12, Tryz.ntmps12
  go_wp2_with fail
  rw [← hW]
  clear hW hsz
  have hT := hbx
  have a0 := k1.cell 0
  have a1 := k1.cell 1
  simp at a0 a1
  go_wp2_with fail
  clear a0 a1
  (with_reducible refine (HR1.out _ hT).mono ?_)
  rintro e u1 ⟨rfl, hb9⟩
  have hT := hT.trans (hb9.mono hT.size)
  have k1 := k1.below hb9 k1.lt
  have k2 := k2.below hb9 k2.lt
  have kR := kR.below hb9 kR.lt
  have b0 := k2.cell 0
  have b1 := k2.cell 1
  simp at b0 b1
  go_wp2_with fail
  clear b0 b1
  (with_reducible refine (HR2.out _ hT).mono ?_)
  rintro e u ⟨rfl, hb9⟩
  have hT := hT.trans (hb9.mono hT.size)
  have k1 := k1.below hb9 k1.lt
  have k2 := k2.below hb9 k2.lt
  have kR := kR.below hb9 kR.lt
  have hmu : IntKind.i64.wrap (s1 * s2) = S := HMUL.out
  go_upto_region 3 with fail
  obtain ⟨B, hB⟩ : ∃ B, w.heap.size + 1 + 1 = B := ⟨_, rfl⟩
  have hwB : w.heap.size + 1 < B := by omega
  have hBu : B ≤ u.heap.size := by have := kR.lt; omega
  rw [hB] at kR ⊢
  clear hB
  have kRl := kR.lt
  have kR := And.intro kR kRl
  clear kRl
  have hf := fun (w' : World) (hb : Below B u w') => HFF.out w' (hT.trans (hb.mono (by omega)))
  have HF := Lib.hid hf; clear hf HFF
  have e0 : ∀ W' : World, Below B u W' → W'.cell? ⟨w.heap.size, 0, none⟩ = some (.int .i64 s1) ∧ W'.cell? ⟨w.heap.size, 1, none⟩ = some (.slice A1 n1 c1) ∧ W'.cell? ⟨w.heap.size + 1, 0, none⟩ = some (.int .i64 s2) ∧ W'.cell? ⟨w.heap.size + 1, 1, none⟩ = some (.slice A2 n2 c2) ∧ Below B u W' := fun W' hW =>
    ⟨(k1.below hW (by omega)).cell 0, (k1.below hW (by omega)).cell 1, (k2.below hW (by omega)).cell 0, (k2.below hW (by omega)).cell 1, hW⟩
  have E0 := Lib.hid e0; clear e0
  have hB00 : Below B u u.drew := (Below.refl _ _).drew
  have hge : B ≤ B := Nat.le_refl _
  have HK2 := Lib.hid kR; clear kR
  clear k1 k2
  go_region_held3 (fun W' => W'.cell? ⟨w.heap.size, 0, none⟩ = some (.int .i64 s1) ∧ W'.cell? ⟨w.heap.size, 1, none⟩ = some (.slice A1 n1 c1) ∧ W'.cell? ⟨w.heap.size + 1, 0, none⟩ = some (.int .i64 s2) ∧ W'.cell? ⟨w.heap.size + 1, 1, none⟩ = some (.slice A2 n2 c2) ∧ Below B u W')
    (first | exact E0.out _ (below_st hB6 hge _ _) | exact E0.out _ (by assumption) | exact E0.out _ ⟨rfl, rfl, rfl, Nat.le_refl _, fun _ _ => rfl⟩)
    (first
      | (go_at_call 61; have _h := hr5; refine (rkept_any _ _ _ _ hr5).mono ?_; rintro e x6 ⟨r6, rfl, hr6, hb6⟩; have hB6 : Below B u x6 := hB5.trans (hb6.mono (Nat.le_trans hBu hB5.size)); rw [HZE.out]; rw [HZF.out] at hr6; obtain ⟨s6, A6, n6, c6, rfl⟩ := hr6.form; have kR6 := (HK2.out.1.below (hb4a.mono (Nat.le_refl _)) HK2.out.2).below (hb5.trans (hb6.mono hb5.size)) hlt5; have z0 := kR6.cell 0; have z1 := kR6.cell 1; have y0 := kR6.frozen 0; have y1 := kR6.frozen 1)
      | (go_at_call 62; have _h := hv4; refine (HMD.out _ _ _ hv4).mono ?_; rintro e x5 ⟨r5, rfl, hr5, hb5⟩; have hB5 : Below B u x5 := hB4.trans (hb5.mono (Nat.le_trans hBu hB4.size)))
      | (go_at_call 68; refine (HF.out _ hB00).mono ?_; rintro e x4 ⟨v4, rfl, hv4, hb4⟩; have hb4a : Below u.heap.size u x4 := ⟨hb4.os, hb4.tape, hb4.output, hb4.size, hb4.block⟩; have hB4 : Below B u x4 := hb4a.mono hBu; have hlt5 : B < x4.heap.size := Nat.lt_of_lt_of_le HK2.out.2 hb4a.size))
  have hbs := kR6.set2 (.int .i64 s6) (.slice A6 n6 c6)
  have x0 := hbs.cell 0
  have x1 := hbs.cell 1
  simp at x0 x1
  go_wp2_with fail
  refine bodyPost_ret (v := .tuple #[.agg #[.int .i64 s6, .slice A6 n6 c6], .int .i64 E]) (by simp [results, Tryz.results12, go_sem, x0, x1]) rfl ?_
  exact ⟨_, rfl, (hr6.far2 hlt5 _ _).mono (by have := HK2.out.2; have := hb4a.size; omega), below_st (hT.trans (hB6.mono (by omega))) (by omega) _ _⟩

end Go.Proofs.YtkjpfnbdlbnbkaaGreatDoor

namespace Go.Proofs.YtkjpfnbdlbnbkaaGreatDoor
open Go.RowKit

theorem or_sgn {s1 s2 : Int} (h1 : -1 ≤ s1 ∧ s1 ≤ 1) (h2 : -1 ≤ s2 ∧ s2 ≤ 1) (h : s1 = 0 ∨ s2 = 0 ∨ s1 = s2) : bits BinOp.or IntKind.i64 s1 s2 = if s1 = 0 then s2 else s1 := by
  have a1 : s1 = -1 ∨ s1 = 0 ∨ s1 = 1 := by omega
  have a2 : s2 = -1 ∨ s2 = 0 ∨ s2 = 1 := by omega
  rcases a1 with rfl | rfl | rfl <;> rcases a2 with rfl | rfl | rfl <;> first | (exfalso; omega) | decide
theorem sgn_three (x : Int) : (x < 0 ∧ sgn x = -1) ∨ (x = 0 ∧ sgn x = 0) ∨ (0 < x ∧ sgn x = 1) := by
  rcases Int.lt_trichotomy x 0 with h | h | h
  · exact .inl ⟨h, sgn_of_neg h⟩
  · exact .inr (.inl ⟨h, by rw [h]; rfl⟩)
  · exact .inr (.inr ⟨h, sgn_pos h⟩)
theorem add_same {x y : Int} (h : sgn x = 0 ∨ sgn y = 0 ∨ sgn x = sgn y) : (if sgn x = 0 then sgn y else sgn x) * (ab x + ab y) = x + y := by
  rcases sgn_three x with ⟨a, e⟩ | ⟨a, e⟩ | ⟨a, e⟩ <;> rcases sgn_three y with ⟨b, e'⟩ | ⟨b, e'⟩ | ⟨b, e'⟩ <;> rw [e, e'] at h ⊢ <;> first | (exfalso; omega) | (rw [if_pos rfl]; unfold ab; omega) | (rw [if_neg (by decide)]; unfold ab; omega)

set_option maxRecDepth 100000 in
set_option maxHeartbeats 8000000 in
theorem radd_same {s1 s2 : Int} {A1 A2 : Option Addr} {n1 c1 n2 c2 : Nat} {x y : Int} (w : World) (h1 : BV w w.heap.size (.agg #[.int .i64 s1, .slice A1 n1 c1]) x) (h2 : BV w w.heap.size (.agg #[.int .i64 s2, .slice A2 n2 c2]) y) (hx : ab x < pw 60) (hy : ab y < pw 60) (hc : s1 = 0 ∨ s2 = 0 ∨ s1 = s2) :
    Calls Tryz.prog 8 #[.agg #[.int .i64 s1, .slice A1 n1 c1], .agg #[.int .i64 s2, .slice A2 n2 c2]] w fun e w' => ∃ r, e = .returned (.tuple #[r, .int .i64 (fite (x + y))]) ∧ BO w' w.heap.size r (fitz (x + y)) ∧ Below w.heap.size w w' := by
  have hs1 := (bv_sv h1).2.1
  have hs2 := (bv_sv h2).2.1
  have hl1 : (D (ab x)).length ≤ 60 := (D_len_le (ab_nonneg x)).2 hx
  have hl2 : (D (ab y)).length ≤ 60 := (D_len_le (ab_nonneg y)).2 hy
  have hr1 := fun (w' : World) (hbw : Below w.heap.size w w') => rRight_yes (h1.later hbw) hx
  have hr2 := fun (w' : World) (hbw : Below w.heap.size w w') => rRight_yes (h2.later hbw) hy
  have HR1 := Lib.hid hr1; clear hr1
  have HR2 := Lib.hid hr2; clear hr2
  have hsb1 := sgn_bd x
  have hsb2 := sgn_bd y
  rw [← hs1] at hsb1
  rw [← hs2] at hsb2
  have hor := or_sgn hsb1 hsb2 hc
  have hval : (if s1 = 0 then s2 else s1) * (ab x + ab y) = x + y := by rw [hs1, hs2] at hc ⊢; exact add_same hc
  have hf := fun (w' : World) (hbw : Below w.heap.size w w') => rplus_any (D (ab x)) (D (ab y)) (.slice A1 n1 c1) (.slice A2 n2 c2) w' (bv_sv (h1.later hbw)).1 (bv_sv (h2.later hbw)).1 (Dig_D _) (Dig_D _) (by omega) (by omega)
  rw [nv_D (ab_nonneg x), nv_D (ab_nonneg y)] at hf
  have hnn : 0 ≤ ab x + ab y := by have := ab_nonneg x; have := ab_nonneg y; omega
  have hl3 : (D (ab x + ab y)).length ≤ 400 := (D_len_le hnn).2 (by
    have := pw_le (show 61 ≤ 400 by omega)
    rw [show (61 : Nat) = 60 + 1 from rfl, pw_succ] at this
    omega)
  obtain ⟨S, hS⟩ : ∃ S, (if s1 = 0 then s2 else s1) = S := ⟨_, rfl⟩
  rw [hS] at hor hval
  have hS3 : S = 1 ∨ S = -1 ∨ ab x + ab y = 0 := by
    have a1 : S = -1 ∨ S = 0 ∨ S = 1 := by rw [← hS]; split <;> omega
    rcases a1 with h | h | h
    · exact .inr (.inl h)
    · refine .inr (.inr ?_)
      rw [← hS, hs1, hs2] at h
      unfold sgn at h
      unfold ab
      split at h <;> split at h <;> (try split at h) <;> (try split at h) <;> omega
    · exact .inl h
  have hmd := fun (w' : World) (v : Value) (B : Nat) (h : OwnI w' B v (D (ab x + ab y))) => rmade_any (D (ab x + ab y)) S (x + y) v w' h.sv (Dig_D _) hl3 (by rw [nv_D hnn]; exact hval.symm) (by rw [nv_D hnn]; exact hS3)
  have HFF := Lib.hid hf; clear hf
  have HMD := Lib.hid hmd; clear hmd
  obtain ⟨E, hE⟩ : ∃ E, fite (x + y) = E := ⟨_, rfl⟩
  obtain ⟨F, hF⟩ : ∃ E, fitz (x + y) = E := ⟨_, rfl⟩
  rw [hE, hF]
  have HZE := Lib.hid hE; clear hE
  have HZF := Lib.hid hF; clear hF
  have HOR := Lib.hid hor; clear hor
  clear hs1 hs2 hsb1 hsb2 hl1 hl2 hl3 h1 h2 hx hy hnn hS3 hval hS
  obtain ⟨W, hW, hbx, k1, k2, kR, hsz⟩ := boxes3 w #[.int .i64 s1, .slice A1 n1 c1] #[.int .i64 s2, .slice A2 n2 c2] #[.int .i64 0, .slice none 0 0]
  go_enter Tryz.func8, Tryz.ntmps8
  go_wp2_with fail
  rw [← hW]
  clear hW hsz
  have hT := hbx
  have a0 := k1.cell 0
  have a1 := k1.cell 1
  simp at a0 a1
  go_wp2_with fail
  clear a0 a1
  (with_reducible refine (HR1.out _ hT).mono ?_)
  rintro e u1 ⟨rfl, hb9⟩
  have hT := hT.trans (hb9.mono hT.size)
  have k1 := k1.below hb9 k1.lt
  have k2 := k2.below hb9 k2.lt
  have kR := kR.below hb9 kR.lt
  have b0 := k2.cell 0
  have b1 := k2.cell 1
  simp at b0 b1
  go_wp2_with fail
  clear b0 b1
  (with_reducible refine (HR2.out _ hT).mono ?_)
  rintro e u ⟨rfl, hb9⟩
  have hT := hT.trans (hb9.mono hT.size)
  have k1 := k1.below hb9 k1.lt
  have k2 := k2.below hb9 k2.lt
  have kR := kR.below hb9 kR.lt
  have a0 := k1.cell 0
  have a1 := k1.cell 1
  have b0 := k2.cell 0
  have b1 := k2.cell 1
  simp at a0 a1 b0 b1
  have hor := HOR.out
  have hw3 : (s1 = 0) ∨ (s1 ≠ 0 ∧ s2 = 0) ∨ (s1 ≠ 0 ∧ s2 ≠ 0 ∧ s1 = s2) := by omega
  have HW3 := Lib.hid hw3; clear hw3 hc
  have q1 : (s1 == 0) = true ∨ ((s1 == 0) = false ∧ (s2 == 0) = true) ∨ ((s1 == 0) = false ∧ (s2 == 0) = false ∧ (s1 == s2) = true) := by
    rcases HW3.out with h | ⟨h, h'⟩ | ⟨h, h', h''⟩
    · exact .inl (by simpa using h)
    · exact .inr (.inl ⟨by simpa using h, by simpa using h'⟩)
    · exact .inr (.inr ⟨by simpa using h, by simpa using h', by simpa using h''⟩)
  have Q1 := Lib.hid q1; clear q1
  rcases Q1.out with q1 | ⟨q1, q2⟩ | ⟨q1, q2, q3⟩
  all_goals
    go_upto_region 4 with fail
    clear a0 a1 b0 b1
    clear q1
    obtain ⟨B, hB⟩ : ∃ B, w.heap.size + 1 + 1 = B := ⟨_, rfl⟩
    have hwB : w.heap.size + 1 < B := by omega
    have hBu : B ≤ u.heap.size := by have := kR.lt; omega
    rw [hB] at kR ⊢
    clear hB
    have kRl := kR.lt
    have kR := And.intro kR kRl
    clear kRl
    have hf := fun (w' : World) (hb : Below B u w') => HFF.out w' (hT.trans (hb.mono (by omega)))
    have HF := Lib.hid hf; clear hf HFF
    have e0 : ∀ W' : World, Below B u W' → W'.cell? ⟨w.heap.size, 0, none⟩ = some (.int .i64 s1) ∧ W'.cell? ⟨w.heap.size, 1, none⟩ = some (.slice A1 n1 c1) ∧ W'.cell? ⟨w.heap.size + 1, 0, none⟩ = some (.int .i64 s2) ∧ W'.cell? ⟨w.heap.size + 1, 1, none⟩ = some (.slice A2 n2 c2) ∧ Below B u W' := fun W' hW =>
      ⟨(k1.below hW (by omega)).cell 0, (k1.below hW (by omega)).cell 1, (k2.below hW (by omega)).cell 0, (k2.below hW (by omega)).cell 1, hW⟩
    have E0 := Lib.hid e0; clear e0
    have hB00 : Below B u u.drew := (Below.refl _ _).drew
    have hge : B ≤ B := Nat.le_refl _
    have HK2 := Lib.hid kR; clear kR
    clear k1 k2
    go_region_held3 (fun W' => W'.cell? ⟨w.heap.size, 0, none⟩ = some (.int .i64 s1) ∧ W'.cell? ⟨w.heap.size, 1, none⟩ = some (.slice A1 n1 c1) ∧ W'.cell? ⟨w.heap.size + 1, 0, none⟩ = some (.int .i64 s2) ∧ W'.cell? ⟨w.heap.size + 1, 1, none⟩ = some (.slice A2 n2 c2) ∧ Below B u W')
      (first | exact E0.out _ (below_st hB6 hge _ _) | exact E0.out _ (by assumption) | exact E0.out _ ⟨rfl, rfl, rfl, Nat.le_refl _, fun _ _ => rfl⟩)
      (first
        | (go_at_call 61; have _h := hr5; refine (rkept_any _ _ _ _ hr5).mono ?_; rintro e x6 ⟨r6, rfl, hr6, hb6⟩; have hB6 : Below B u x6 := hB5.trans (hb6.mono (Nat.le_trans hBu hB5.size)); rw [HZE.out]; rw [HZF.out] at hr6; obtain ⟨s6, A6, n6, c6, rfl⟩ := hr6.form; have kR6 := (HK2.out.1.below (hb4a.mono (Nat.le_refl _)) HK2.out.2).below (hb5.trans (hb6.mono hb5.size)) hlt5; have z0 := kR6.cell 0; have z1 := kR6.cell 1; have y0 := kR6.frozen 0; have y1 := kR6.frozen 1)
        | (go_at_call 62; have _h := hv4; refine (HMD.out _ _ _ hv4).mono ?_; rintro e x5 ⟨r5, rfl, hr5, hb5⟩; have hB5 : Below B u x5 := hB4.trans (hb5.mono (Nat.le_trans hBu hB4.size)))
        | (go_at_call 63; refine (HF.out _ hB00).mono ?_; rintro e x4 ⟨v4, rfl, hv4, hb4⟩; have hb4a : Below u.heap.size u x4 := ⟨hb4.os, hb4.tape, hb4.output, hb4.size, hb4.block⟩; have hB4 : Below B u x4 := hb4a.mono hBu; have hlt5 : B < x4.heap.size := Nat.lt_of_lt_of_le HK2.out.2 hb4a.size))
    have hbs := kR6.set2 (.int .i64 s6) (.slice A6 n6 c6)
    have x0 := hbs.cell 0
    have x1 := hbs.cell 1
    simp at x0 x1
    go_wp2_with fail
    refine bodyPost_ret (v := .tuple #[.agg #[.int .i64 s6, .slice A6 n6 c6], .int .i64 E]) (by simp [results, Tryz.results8, go_sem, x0, x1]) rfl ?_
    exact ⟨_, rfl, (hr6.far2 hlt5 _ _).mono (by have := HK2.out.2; have := hb4a.size; omega), below_st (hT.trans (hB6.mono (by omega))) (by omega) _ _⟩

end Go.Proofs.YtkjpfnbdlbnbkaaGreatDoor
