/- Walks: the reference's Mul. Printed by a program (rref.py). Walks: the reference's Add of the same sign. Printed by a program (rref.py). Walks: the reference's Add. Printed by a program (rref.py). -/
import Derived.Test.YtgpmmpajnfbecaaGreatXax
import Derived.Test.YtgpmmpajnfbecaaGreatXam
import Derived.Deep.RegionHeld3
import Derived.IntWalk

namespace Go.Proofs.YtgpmmpajnfbecaaGreat
open Go.RowKit

set_option maxRecDepth 100000 in
set_option maxHeartbeats 8000000 in
theorem rmulb_any {s1 s2 : Int} {A1 A2 : Option Addr} {n1 c1 n2 c2 : Nat} {x y : Int} (w : World) (h1 : BV w w.heap.size (.agg #[.int .i64 s1, .slice A1 n1 c1]) x) (h2 : BV w w.heap.size (.agg #[.int .i64 s2, .slice A2 n2 c2]) y) (hx : ab x < pw 60) (hy : ab y < pw 60) :
    Calls Tryz.prog 46 #[.agg #[.int .i64 s1, .slice A1 n1 c1], .agg #[.int .i64 s2, .slice A2 n2 c2]] w fun e w' => ∃ r, e = .returned (.tuple #[r, .int .i64 (fite (x * y))]) ∧ BO w' w.heap.size r (fitz (x * y)) ∧ Below w.heap.size w w' := by
  have hs1 := (bv_sv h1).2.1
  have hs2 := (bv_sv h2).2.1
  have hl1 : (D (ab x)).length ≤ 60 := (D_len_le (ab_nonneg x)).2 hx
  have hl2 : (D (ab y)).length ≤ 60 := (D_len_le (ab_nonneg y)).2 hy
  have hr1 := fun (w' : World) (hbw : Below w.heap.size w w') => rRight_yes (h1.later hbw) hx
  have hr2 := fun (w' : World) (hbw : Below w.heap.size w w') => rRight_yes (h2.later hbw) hy
  have HR1 := Lib.hid hr1; clear hr1
  have HR2 := Lib.hid hr2; clear hr2
  have hsb1 := sgn_bd x
  have hsb2 := sgn_bd y
  have hf := fun (w' : World) (hbw : Below w.heap.size w w') => rtimes_any (D (ab x)) (D (ab y)) (.slice A1 n1 c1) (.slice A2 n2 c2) w' (bv_sv (h1.later hbw)).1 (bv_sv (h2.later hbw)).1 (Dig_D _) (Dig_D _) (by omega) (by omega)
  rw [nv_D (ab_nonneg x), nv_D (ab_nonneg y), ← ab_mul] at hf
  have hmul : IntKind.i64.wrap (s1 * s2) = s1 * s2 := by
    rw [hs1, hs2]
    refine IntWalk.i64_in _ ?_
    have h1 : sgn x = -1 ∨ sgn x = 0 ∨ sgn x = 1 := by omega
    have h2 : sgn y = -1 ∨ sgn y = 0 ∨ sgn y = 1 := by omega
    rcases h1 with h | h | h <;> rcases h2 with h' | h' | h' <;> rw [h, h'] <;> decide
  have hss : s1 * s2 = sgn (x * y) := by rw [hs1, hs2, sgn_mul]
  have hmu2 := hmul.trans hss
  clear hmul
  have hmul := hmu2
  clear hmu2
  have hl3 : (D (ab (x * y))).length ≤ 400 := (D_len_le (ab_nonneg _)).2 (by
    have := ab_mul_lt hx hy rfl
    have := pw_le (show 60 + 60 ≤ 400 by omega)
    omega)
  have hmd := fun (w' : World) (v : Value) (B : Nat) (h : OwnI w' B v (D (ab (x * y)))) => rmade_any (D (ab (x * y))) (sgn (x * y)) (x * y) v w' h.sv (Dig_D _) hl3 (sgn_nv _).symm (sgn_or _)
  have HFF := Lib.hid hf; clear hf
  have HMD := Lib.hid hmd; clear hmd
  obtain ⟨E, hE⟩ : ∃ E, fite (x * y) = E := ⟨_, rfl⟩
  obtain ⟨F, hF⟩ : ∃ E, fitz (x * y) = E := ⟨_, rfl⟩
  rw [hE, hF]
  have HZE := Lib.hid hE; clear hE
  have HZF := Lib.hid hF; clear hF
  obtain ⟨S, hS⟩ : ∃ S, sgn (x * y) = S := ⟨_, rfl⟩
  rw [hS] at hmul hss HMD
  have HSS := Lib.hid hss; clear hss hS
  have HMUL := Lib.hid hmul; clear hmul
  clear hs1 hs2 hsb1 hsb2 hl1 hl2 hl3 h1 h2 hx hy
  obtain ⟨W, hW, hbx, k1, k2, kR, hsz⟩ := boxes3 w #[.int .i64 s1, .slice A1 n1 c1] #[.int .i64 s2, .slice A2 n2 c2] #[.int .i64 0, .slice none 0 0]
  go_enter Tryz.func46, Tryz.ntmps46
  go_wp2_with fail
  rw [← hW]
  clear hW hsz
  have hT := hbx
  have a0 := k1.cell 0
  have a1 := k1.cell 1
  simp at a0 a1
  go_wp2_with fail
  clear a0 a1
  (with_reducible refine (HR1.out _ hT).mono ?_)
  rintro e u1 ⟨rfl, hb9⟩
  have hT := hT.trans (hb9.mono hT.size)
  have k1 := k1.below hb9 k1.lt
  have k2 := k2.below hb9 k2.lt
  have kR := kR.below hb9 kR.lt
  have b0 := k2.cell 0
  have b1 := k2.cell 1
  simp at b0 b1
  go_wp2_with fail
  clear b0 b1
  (with_reducible refine (HR2.out _ hT).mono ?_)
  rintro e u ⟨rfl, hb9⟩
  have hT := hT.trans (hb9.mono hT.size)
  have k1 := k1.below hb9 k1.lt
  have k2 := k2.below hb9 k2.lt
  have kR := kR.below hb9 kR.lt
  have hmu : IntKind.i64.wrap (s1 * s2) = S := HMUL.out
  go_upto_region 3 with fail
  obtain ⟨B, hB⟩ : ∃ B, w.heap.size + 1 + 1 = B := ⟨_, rfl⟩
  have hwB : w.heap.size + 1 < B := by omega
  have hBu : B ≤ u.heap.size := by have := kR.lt; omega
  rw [hB] at kR ⊢
  clear hB
  have kRl := kR.lt
  have kR := And.intro kR kRl
  clear kRl
  have hf := fun (w' : World) (hb : Below B u w') => HFF.out w' (hT.trans (hb.mono (by omega)))
  have HF := Lib.hid hf; clear hf HFF
  have e0 : ∀ W' : World, Below B u W' → W'.cell? ⟨w.heap.size, 0, none⟩ = some (.int .i64 s1) ∧ W'.cell? ⟨w.heap.size, 1, none⟩ = some (.slice A1 n1 c1) ∧ W'.cell? ⟨w.heap.size + 1, 0, none⟩ = some (.int .i64 s2) ∧ W'.cell? ⟨w.heap.size + 1, 1, none⟩ = some (.slice A2 n2 c2) ∧ Below B u W' := fun W' hW =>
    ⟨(k1.below hW (by omega)).cell 0, (k1.below hW (by omega)).cell 1, (k2.below hW (by omega)).cell 0, (k2.below hW (by omega)).cell 1, hW⟩
  have E0 := Lib.hid e0; clear e0
  have hB00 : Below B u u.drew := (Below.refl _ _).drew
  have hge : B ≤ B := Nat.le_refl _
  have HK2 := Lib.hid kR; clear kR
  clear k1 k2
  go_region_held3 (fun W' => W'.cell? ⟨w.heap.size, 0, none⟩ = some (.int .i64 s1) ∧ W'.cell? ⟨w.heap.size, 1, none⟩ = some (.slice A1 n1 c1) ∧ W'.cell? ⟨w.heap.size + 1, 0, none⟩ = some (.int .i64 s2) ∧ W'.cell? ⟨w.heap.size + 1, 1, none⟩ = some (.slice A2 n2 c2) ∧ Below B u W')
    (first | exact E0.out _ (below_st hB6 hge _ _) | exact E0.out _ (by assumption) | exact E0.out _ ⟨rfl, rfl, rfl, Nat.le_refl _, fun _ _ => rfl⟩)
    (first
      | (go_at_call 73; have _h := hr5; refine (rkept_any _ _ _ _ hr5).mono ?_; rintro e x6 ⟨r6, rfl, hr6, hb6⟩; have hB6 : Below B u x6 := hB5.trans (hb6.mono (Nat.le_trans hBu hB5.size)); rw [HZE.out]; rw [HZF.out] at hr6; obtain ⟨s6, A6, n6, c6, rfl⟩ := hr6.form; have kR6 := (HK2.out.1.below (hb4a.mono (Nat.le_refl _)) HK2.out.2).below (hb5.trans (hb6.mono hb5.size)) hlt5; have z0 := kR6.cell 0; have z1 := kR6.cell 1; have y0 := kR6.frozen 0; have y1 := kR6.frozen 1)
      | (go_at_call 67; have _h := hv4; refine (HMD.out _ _ _ hv4).mono ?_; rintro e x5 ⟨r5, rfl, hr5, hb5⟩; have hB5 : Below B u x5 := hB4.trans (hb5.mono (Nat.le_trans hBu hB4.size)))
      | (go_at_call 74; refine (HF.out _ hB00).mono ?_; rintro e x4 ⟨v4, rfl, hv4, hb4⟩; have hb4a : Below u.heap.size u x4 := ⟨hb4.os, hb4.tape, hb4.output, hb4.size, hb4.block⟩; have hB4 : Below B u x4 := hb4a.mono hBu; have hlt5 : B < x4.heap.size := Nat.lt_of_lt_of_le HK2.out.2 hb4a.size))
  have hbs := kR6.set2 (.int .i64 s6) (.slice A6 n6 c6)
  have x0 := hbs.cell 0
  have x1 := hbs.cell 1
  simp at x0 x1
  go_wp2_with fail
  refine bodyPost_ret (v := .tuple #[.agg #[.int .i64 s6, .slice A6 n6 c6], .int .i64 E]) (by simp [results, Tryz.results46, go_sem, x0, x1]) rfl ?_
  exact ⟨_, rfl, (hr6.far2 hlt5 _ _).mono (by have := HK2.out.2; have := hb4a.size; omega), below_st (hT.trans (hB6.mono (by omega))) (by omega) _ _⟩

end Go.Proofs.YtgpmmpajnfbecaaGreat

namespace Go.Proofs.YtgpmmpajnfbecaaGreat
open Go.RowKit

theorem or_sgn {s1 s2 : Int} (h1 : -1 ≤ s1 ∧ s1 ≤ 1) (h2 : -1 ≤ s2 ∧ s2 ≤ 1) (h : s1 = 0 ∨ s2 = 0 ∨ s1 = s2) : bits BinOp.or IntKind.i64 s1 s2 = if s1 = 0 then s2 else s1 := by
  have a1 : s1 = -1 ∨ s1 = 0 ∨ s1 = 1 := by omega
  have a2 : s2 = -1 ∨ s2 = 0 ∨ s2 = 1 := by omega
  rcases a1 with rfl | rfl | rfl <;> rcases a2 with rfl | rfl | rfl <;> first | (exfalso; omega) | decide
theorem sgn_three (x : Int) : (x < 0 ∧ sgn x = -1) ∨ (x = 0 ∧ sgn x = 0) ∨ (0 < x ∧ sgn x = 1) := by
  rcases Int.lt_trichotomy x 0 with h | h | h
  · exact .inl ⟨h, sgn_of_neg h⟩
  · exact .inr (.inl ⟨h, by rw [h]; rfl⟩)
  · exact .inr (.inr ⟨h, sgn_pos h⟩)
theorem add_same {x y : Int} (h : sgn x = 0 ∨ sgn y = 0 ∨ sgn x = sgn y) : (if sgn x = 0 then sgn y else sgn x) * (ab x + ab y) = x + y := by
  rcases sgn_three x with ⟨a, e⟩ | ⟨a, e⟩ | ⟨a, e⟩ <;> rcases sgn_three y with ⟨b, e'⟩ | ⟨b, e'⟩ | ⟨b, e'⟩ <;> rw [e, e'] at h ⊢ <;> first | (exfalso; omega) | (rw [if_pos rfl]; unfold ab; omega) | (rw [if_neg (by decide)]; unfold ab; omega)

set_option maxRecDepth 100000 in
set_option maxHeartbeats 8000000 in
theorem radd_same {s1 s2 : Int} {A1 A2 : Option Addr} {n1 c1 n2 c2 : Nat} {x y : Int} (w : World) (h1 : BV w w.heap.size (.agg #[.int .i64 s1, .slice A1 n1 c1]) x) (h2 : BV w w.heap.size (.agg #[.int .i64 s2, .slice A2 n2 c2]) y) (hx : ab x < pw 60) (hy : ab y < pw 60) (hc : s1 = 0 ∨ s2 = 0 ∨ s1 = s2) :
    Calls Tryz.prog 64 #[.agg #[.int .i64 s1, .slice A1 n1 c1], .agg #[.int .i64 s2, .slice A2 n2 c2]] w fun e w' => ∃ r, e = .returned (.tuple #[r, .int .i64 (fite (x + y))]) ∧ BO w' w.heap.size r (fitz (x + y)) ∧ Below w.heap.size w w' := by
  have hs1 := (bv_sv h1).2.1
  have hs2 := (bv_sv h2).2.1
  have hl1 : (D (ab x)).length ≤ 60 := (D_len_le (ab_nonneg x)).2 hx
  have hl2 : (D (ab y)).length ≤ 60 := (D_len_le (ab_nonneg y)).2 hy
  have hr1 := fun (w' : World) (hbw : Below w.heap.size w w') => rRight_yes (h1.later hbw) hx
  have hr2 := fun (w' : World) (hbw : Below w.heap.size w w') => rRight_yes (h2.later hbw) hy
  have HR1 := Lib.hid hr1; clear hr1
  have HR2 := Lib.hid hr2; clear hr2
  have hsb1 := sgn_bd x
  have hsb2 := sgn_bd y
  rw [← hs1] at hsb1
  rw [← hs2] at hsb2
  have hor := or_sgn hsb1 hsb2 hc
  have hval : (if s1 = 0 then s2 else s1) * (ab x + ab y) = x + y := by rw [hs1, hs2] at hc ⊢; exact add_same hc
  have hf := fun (w' : World) (hbw : Below w.heap.size w w') => rplus_any (D (ab x)) (D (ab y)) (.slice A1 n1 c1) (.slice A2 n2 c2) w' (bv_sv (h1.later hbw)).1 (bv_sv (h2.later hbw)).1 (Dig_D _) (Dig_D _) (by omega) (by omega)
  rw [nv_D (ab_nonneg x), nv_D (ab_nonneg y)] at hf
  have hnn : 0 ≤ ab x + ab y := by have := ab_nonneg x; have := ab_nonneg y; omega
  have hl3 : (D (ab x + ab y)).length ≤ 400 := (D_len_le hnn).2 (by
    have := pw_le (show 61 ≤ 400 by omega)
    rw [show (61 : Nat) = 60 + 1 from rfl, pw_succ] at this
    omega)
  obtain ⟨S, hS⟩ : ∃ S, (if s1 = 0 then s2 else s1) = S := ⟨_, rfl⟩
  rw [hS] at hor hval
  have hS3 : S = 1 ∨ S = -1 ∨ ab x + ab y = 0 := by
    have a1 : S = -1 ∨ S = 0 ∨ S = 1 := by rw [← hS]; split <;> omega
    rcases a1 with h | h | h
    · exact .inr (.inl h)
    · refine .inr (.inr ?_)
      rw [← hS, hs1, hs2] at h
      unfold sgn at h
      unfold ab
      split at h <;> split at h <;> (try split at h) <;> (try split at h) <;> omega
    · exact .inl h
  have hmd := fun (w' : World) (v : Value) (B : Nat) (h : OwnI w' B v (D (ab x + ab y))) => rmade_any (D (ab x + ab y)) S (x + y) v w' h.sv (Dig_D _) hl3 (by rw [nv_D hnn]; exact hval.symm) (by rw [nv_D hnn]; exact hS3)
  have HFF := Lib.hid hf; clear hf
  have HMD := Lib.hid hmd; clear hmd
  obtain ⟨E, hE⟩ : ∃ E, fite (x + y) = E := ⟨_, rfl⟩
  obtain ⟨F, hF⟩ : ∃ E, fitz (x + y) = E := ⟨_, rfl⟩
  rw [hE, hF]
  have HZE := Lib.hid hE; clear hE
  have HZF := Lib.hid hF; clear hF
  have HOR := Lib.hid hor; clear hor
  clear hs1 hs2 hsb1 hsb2 hl1 hl2 hl3 h1 h2 hx hy hnn hS3 hval hS
  obtain ⟨W, hW, hbx, k1, k2, kR, hsz⟩ := boxes3 w #[.int .i64 s1, .slice A1 n1 c1] #[.int .i64 s2, .slice A2 n2 c2] #[.int .i64 0, .slice none 0 0]
  go_enter Tryz.func64, Tryz.ntmps64
  go_wp2_with fail
  rw [← hW]
  clear hW hsz
  have hT := hbx
  have a0 := k1.cell 0
  have a1 := k1.cell 1
  simp at a0 a1
  go_wp2_with fail
  clear a0 a1
  (with_reducible refine (HR1.out _ hT).mono ?_)
  rintro e u1 ⟨rfl, hb9⟩
  have hT := hT.trans (hb9.mono hT.size)
  have k1 := k1.below hb9 k1.lt
  have k2 := k2.below hb9 k2.lt
  have kR := kR.below hb9 kR.lt
  have b0 := k2.cell 0
  have b1 := k2.cell 1
  simp at b0 b1
  go_wp2_with fail
  clear b0 b1
  (with_reducible refine (HR2.out _ hT).mono ?_)
  rintro e u ⟨rfl, hb9⟩
  have hT := hT.trans (hb9.mono hT.size)
  have k1 := k1.below hb9 k1.lt
  have k2 := k2.below hb9 k2.lt
  have kR := kR.below hb9 kR.lt
  have a0 := k1.cell 0
  have a1 := k1.cell 1
  have b0 := k2.cell 0
  have b1 := k2.cell 1
  simp at a0 a1 b0 b1
  have hor := HOR.out
  have hw3 : (s1 = 0) ∨ (s1 ≠ 0 ∧ s2 = 0) ∨ (s1 ≠ 0 ∧ s2 ≠ 0 ∧ s1 = s2) := by omega
  have HW3 := Lib.hid hw3; clear hw3 hc
  have q1 : (s1 == 0) = true ∨ ((s1 == 0) = false ∧ (s2 == 0) = true) ∨ ((s1 == 0) = false ∧ (s2 == 0) = false ∧ (s1 == s2) = true) := by
    rcases HW3.out with h | ⟨h, h'⟩ | ⟨h, h', h''⟩
    · exact .inl (by simpa using h)
    · exact .inr (.inl ⟨by simpa using h, by simpa using h'⟩)
    · exact .inr (.inr ⟨by simpa using h, by simpa using h', by simpa using h''⟩)
  have Q1 := Lib.hid q1; clear q1
  rcases Q1.out with q1 | ⟨q1, q2⟩ | ⟨q1, q2, q3⟩
  all_goals
    go_upto_region 4 with fail
    clear a0 a1 b0 b1
    clear q1
    obtain ⟨B, hB⟩ : ∃ B, w.heap.size + 1 + 1 = B := ⟨_, rfl⟩
    have hwB : w.heap.size + 1 < B := by omega
    have hBu : B ≤ u.heap.size := by have := kR.lt; omega
    rw [hB] at kR ⊢
    clear hB
    have kRl := kR.lt
    have kR := And.intro kR kRl
    clear kRl
    have hf := fun (w' : World) (hb : Below B u w') => HFF.out w' (hT.trans (hb.mono (by omega)))
    have HF := Lib.hid hf; clear hf HFF
    have e0 : ∀ W' : World, Below B u W' → W'.cell? ⟨w.heap.size, 0, none⟩ = some (.int .i64 s1) ∧ W'.cell? ⟨w.heap.size, 1, none⟩ = some (.slice A1 n1 c1) ∧ W'.cell? ⟨w.heap.size + 1, 0, none⟩ = some (.int .i64 s2) ∧ W'.cell? ⟨w.heap.size + 1, 1, none⟩ = some (.slice A2 n2 c2) ∧ Below B u W' := fun W' hW =>
      ⟨(k1.below hW (by omega)).cell 0, (k1.below hW (by omega)).cell 1, (k2.below hW (by omega)).cell 0, (k2.below hW (by omega)).cell 1, hW⟩
    have E0 := Lib.hid e0; clear e0
    have hB00 : Below B u u.drew := (Below.refl _ _).drew
    have hge : B ≤ B := Nat.le_refl _
    have HK2 := Lib.hid kR; clear kR
    clear k1 k2
    go_region_held3 (fun W' => W'.cell? ⟨w.heap.size, 0, none⟩ = some (.int .i64 s1) ∧ W'.cell? ⟨w.heap.size, 1, none⟩ = some (.slice A1 n1 c1) ∧ W'.cell? ⟨w.heap.size + 1, 0, none⟩ = some (.int .i64 s2) ∧ W'.cell? ⟨w.heap.size + 1, 1, none⟩ = some (.slice A2 n2 c2) ∧ Below B u W')
      (first | exact E0.out _ (below_st hB6 hge _ _) | exact E0.out _ (by assumption) | exact E0.out _ ⟨rfl, rfl, rfl, Nat.le_refl _, fun _ _ => rfl⟩)
      (first
        | (go_at_call 73; have _h := hr5; refine (rkept_any _ _ _ _ hr5).mono ?_; rintro e x6 ⟨r6, rfl, hr6, hb6⟩; have hB6 : Below B u x6 := hB5.trans (hb6.mono (Nat.le_trans hBu hB5.size)); rw [HZE.out]; rw [HZF.out] at hr6; obtain ⟨s6, A6, n6, c6, rfl⟩ := hr6.form; have kR6 := (HK2.out.1.below (hb4a.mono (Nat.le_refl _)) HK2.out.2).below (hb5.trans (hb6.mono hb5.size)) hlt5; have z0 := kR6.cell 0; have z1 := kR6.cell 1; have y0 := kR6.frozen 0; have y1 := kR6.frozen 1)
        | (go_at_call 67; have _h := hv4; refine (HMD.out _ _ _ hv4).mono ?_; rintro e x5 ⟨r5, rfl, hr5, hb5⟩; have hB5 : Below B u x5 := hB4.trans (hb5.mono (Nat.le_trans hBu hB4.size)))
        | (go_at_call 87; refine (HF.out _ hB00).mono ?_; rintro e x4 ⟨v4, rfl, hv4, hb4⟩; have hb4a : Below u.heap.size u x4 := ⟨hb4.os, hb4.tape, hb4.output, hb4.size, hb4.block⟩; have hB4 : Below B u x4 := hb4a.mono hBu; have hlt5 : B < x4.heap.size := Nat.lt_of_lt_of_le HK2.out.2 hb4a.size))
    have hbs := kR6.set2 (.int .i64 s6) (.slice A6 n6 c6)
    have x0 := hbs.cell 0
    have x1 := hbs.cell 1
    simp at x0 x1
    go_wp2_with fail
    refine bodyPost_ret (v := .tuple #[.agg #[.int .i64 s6, .slice A6 n6 c6], .int .i64 E]) (by simp [results, Tryz.results64, go_sem, x0, x1]) rfl ?_
    exact ⟨_, rfl, (hr6.far2 hlt5 _ _).mono (by have := HK2.out.2; have := hb4a.size; omega), below_st (hT.trans (hB6.mono (by omega))) (by omega) _ _⟩

end Go.Proofs.YtgpmmpajnfbecaaGreat

namespace Go.Proofs.YtgpmmpajnfbecaaGreat
open Go.RowKit

theorem add_diff_b {x y : Int} (h : sgn x ≠ 0 ∧ sgn y ≠ 0 ∧ sgn x ≠ sgn y) (_ : ab x < ab y) : sgn y * (ab y - ab x) = x + y := by
  obtain ⟨h1, h2, h3⟩ := h
  rcases sgn_three x with ⟨a, e⟩ | ⟨a, e⟩ | ⟨a, e⟩ <;> rcases sgn_three y with ⟨b, e'⟩ | ⟨b, e'⟩ | ⟨b, e'⟩ <;> rw [e] at h1 h3 <;> rw [e'] at h2 h3 ⊢ <;> first | (exfalso; omega) | (unfold ab at *; omega)
theorem add_diff_a {x y : Int} (h : sgn x ≠ 0 ∧ sgn y ≠ 0 ∧ sgn x ≠ sgn y) (_ : ¬ ab x < ab y) : sgn x * (ab x - ab y) = x + y := by
  obtain ⟨h1, h2, h3⟩ := h
  rcases sgn_three x with ⟨a, e⟩ | ⟨a, e⟩ | ⟨a, e⟩ <;> rcases sgn_three y with ⟨b, e'⟩ | ⟨b, e'⟩ | ⟨b, e'⟩ <;> rw [e] at h1 h3 ⊢ <;> rw [e'] at h2 h3 <;> first | (exfalso; omega) | (unfold ab at *; omega)

set_option maxRecDepth 100000 in
set_option maxHeartbeats 8000000 in
theorem radd_diff_b {s1 s2 : Int} {A1 A2 : Option Addr} {n1 c1 n2 c2 : Nat} {x y : Int} (w : World) (h1 : BV w w.heap.size (.agg #[.int .i64 s1, .slice A1 n1 c1]) x) (h2 : BV w w.heap.size (.agg #[.int .i64 s2, .slice A2 n2 c2]) y) (hx : ab x < pw 60) (hy : ab y < pw 60) (hc : s1 ≠ 0 ∧ s2 ≠ 0 ∧ s1 ≠ s2) (hlt : ab x < ab y) :
    Calls Tryz.prog 64 #[.agg #[.int .i64 s1, .slice A1 n1 c1], .agg #[.int .i64 s2, .slice A2 n2 c2]] w fun e w' => ∃ r, e = .returned (.tuple #[r, .int .i64 (fite (x + y))]) ∧ BO w' w.heap.size r (fitz (x + y)) ∧ Below w.heap.size w w' := by
  have hs1 := (bv_sv h1).2.1
  have hs2 := (bv_sv h2).2.1
  have hl1 : (D (ab x)).length ≤ 60 := (D_len_le (ab_nonneg x)).2 hx
  have hl2 : (D (ab y)).length ≤ 60 := (D_len_le (ab_nonneg y)).2 hy
  have hr1 := fun (w' : World) (hbw : Below w.heap.size w w') => rRight_yes (h1.later hbw) hx
  have hr2 := fun (w' : World) (hbw : Below w.heap.size w w') => rRight_yes (h2.later hbw) hy
  have HR1 := Lib.hid hr1; clear hr1
  have HR2 := Lib.hid hr2; clear hr2
  have hnn : 0 ≤ ab y - ab x := by omega
  have hle : ab x ≤ ab y := by omega
  have hval : s2 * (ab y - ab x) = x + y := by rw [hs1, hs2] at hc; rw [hs2]; exact add_diff_b hc hlt
  have hls := fun (w' : World) (hbw : Below w.heap.size w w') => rless_any (D (ab x)) (D (ab y)) (.slice A1 n1 c1) (.slice A2 n2 c2) w' (bv_sv (h1.later hbw)).1 (bv_sv (h2.later hbw)).1 (Dig_D _) (Dig_D _) (by omega) (by omega) true (by rw [nv_D (ab_nonneg x), nv_D (ab_nonneg y)]; simp; omega)
  have hf := fun (w' : World) (hbw : Below w.heap.size w w') => rminus_any (D (ab y)) (D (ab x)) (.slice A2 n2 c2) (.slice A1 n1 c1) w' (bv_sv (h2.later hbw)).1 (bv_sv (h1.later hbw)).1 (Dig_D _) (Dig_D _) (by omega) (D_len_mono (ab_nonneg _) hle) (by rw [nv_D (ab_nonneg x), nv_D (ab_nonneg y)]; exact hle)
  rw [nv_D (ab_nonneg y), nv_D (ab_nonneg x)] at hf
  have hl3 : (D (ab y - ab x)).length ≤ 400 := by
    have := D_len_mono hnn (show ab y - ab x ≤ ab y by have := ab_nonneg x; omega)
    omega
  have hS3 : s2 = 1 ∨ s2 = -1 ∨ ab y - ab x = 0 := by
    have := sgn_bd y
    rw [← hs2] at this
    omega
  have hmd := fun (w' : World) (v : Value) (B : Nat) (h : OwnI w' B v (D (ab y - ab x))) => rmade_any (D (ab y - ab x)) s2 (x + y) v w' h.sv (Dig_D _) hl3 (by rw [nv_D hnn]; exact hval.symm) (by rw [nv_D hnn]; exact hS3)
  have q1 : (s1 == 0) = false := by simpa using hc.1
  have q2 : (s2 == 0) = false := by simpa using hc.2.1
  have q3 : (s1 == s2) = false := by simpa using hc.2.2
  have HFF := Lib.hid hf; clear hf
  have HMD := Lib.hid hmd; clear hmd
  have HLS := Lib.hid hls; clear hls
  obtain ⟨E, hE⟩ : ∃ E, fite (x + y) = E := ⟨_, rfl⟩
  obtain ⟨F, hF⟩ : ∃ E, fitz (x + y) = E := ⟨_, rfl⟩
  rw [hE, hF]
  have HZE := Lib.hid hE; clear hE
  have HZF := Lib.hid hF; clear hF
  clear hs1 hs2 hl1 hl2 hl3 h1 h2 hx hy hnn hS3 hval hle hlt hc
  obtain ⟨W, hW, hbx, k1, k2, kR, hsz⟩ := boxes3 w #[.int .i64 s1, .slice A1 n1 c1] #[.int .i64 s2, .slice A2 n2 c2] #[.int .i64 0, .slice none 0 0]
  go_enter Tryz.func64, Tryz.ntmps64
  go_wp2_with fail
  rw [← hW]
  clear hW hsz
  have hT := hbx
  have a0 := k1.cell 0
  have a1 := k1.cell 1
  simp at a0 a1
  go_wp2_with fail
  clear a0 a1
  (with_reducible refine (HR1.out _ hT).mono ?_)
  rintro e u1 ⟨rfl, hb9⟩
  have hT := hT.trans (hb9.mono hT.size)
  have k1 := k1.below hb9 k1.lt
  have k2 := k2.below hb9 k2.lt
  have kR := kR.below hb9 kR.lt
  have b0 := k2.cell 0
  have b1 := k2.cell 1
  simp at b0 b1
  go_wp2_with fail
  clear b0 b1
  (with_reducible refine (HR2.out _ hT).mono ?_)
  rintro e u ⟨rfl, hb9⟩
  have hT := hT.trans (hb9.mono hT.size)
  have k1 := k1.below hb9 k1.lt
  have k2 := k2.below hb9 k2.lt
  have kR := kR.below hb9 kR.lt
  have a0 := k1.cell 0
  have a1 := k1.cell 1
  have b0 := k2.cell 0
  have b1 := k2.cell 1
  simp at a0 a1 b0 b1
  go_wp2_with fail
  (with_reducible refine (HLS.out _ hT).mono ?_)
  rintro e u' ⟨rfl, rfl⟩
  go_upto_region 6 with fail
  clear a0 a1 b0 b1 q1 q2 q3
  obtain ⟨B, hB⟩ : ∃ B, w.heap.size + 1 + 1 = B := ⟨_, rfl⟩
  have hwB : w.heap.size + 1 < B := by omega
  have hBu : B ≤ u.heap.size := by have := kR.lt; omega
  rw [hB] at kR ⊢
  clear hB
  have kRl := kR.lt
  have kR := And.intro kR kRl
  clear kRl
  have hf := fun (w' : World) (hb : Below B u w') => HFF.out w' (hT.trans (hb.mono (by omega)))
  have HF := Lib.hid hf; clear hf HFF
  have e0 : ∀ W' : World, Below B u W' → W'.cell? ⟨w.heap.size, 0, none⟩ = some (.int .i64 s1) ∧ W'.cell? ⟨w.heap.size, 1, none⟩ = some (.slice A1 n1 c1) ∧ W'.cell? ⟨w.heap.size + 1, 0, none⟩ = some (.int .i64 s2) ∧ W'.cell? ⟨w.heap.size + 1, 1, none⟩ = some (.slice A2 n2 c2) ∧ Below B u W' := fun W' hW =>
    ⟨(k1.below hW (by omega)).cell 0, (k1.below hW (by omega)).cell 1, (k2.below hW (by omega)).cell 0, (k2.below hW (by omega)).cell 1, hW⟩
  have E0 := Lib.hid e0; clear e0
  have hB00 : Below B u u.drew := (Below.refl _ _).drew
  have hge : B ≤ B := Nat.le_refl _
  have HK2 := Lib.hid kR; clear kR
  clear k1 k2
  go_region_held3 (fun W' => W'.cell? ⟨w.heap.size, 0, none⟩ = some (.int .i64 s1) ∧ W'.cell? ⟨w.heap.size, 1, none⟩ = some (.slice A1 n1 c1) ∧ W'.cell? ⟨w.heap.size + 1, 0, none⟩ = some (.int .i64 s2) ∧ W'.cell? ⟨w.heap.size + 1, 1, none⟩ = some (.slice A2 n2 c2) ∧ Below B u W')
    (first | exact E0.out _ (below_st hB6 hge _ _) | exact E0.out _ (by assumption) | exact E0.out _ ⟨rfl, rfl, rfl, Nat.le_refl _, fun _ _ => rfl⟩)
    (first
      | (go_at_call 73; have _h := hr5; refine (rkept_any _ _ _ _ hr5).mono ?_; rintro e x6 ⟨r6, rfl, hr6, hb6⟩; have hB6 : Below B u x6 := hB5.trans (hb6.mono (Nat.le_trans hBu hB5.size)); rw [HZE.out]; rw [HZF.out] at hr6; obtain ⟨s6, A6, n6, c6, rfl⟩ := hr6.form; have kR6 := (HK2.out.1.below (hb4a.mono (Nat.le_refl _)) HK2.out.2).below (hb5.trans (hb6.mono hb5.size)) hlt5; have z0 := kR6.cell 0; have z1 := kR6.cell 1; have y0 := kR6.frozen 0; have y1 := kR6.frozen 1)
      | (go_at_call 67; have _h := hv4; refine (HMD.out _ _ _ hv4).mono ?_; rintro e x5 ⟨r5, rfl, hr5, hb5⟩; have hB5 : Below B u x5 := hB4.trans (hb5.mono (Nat.le_trans hBu hB4.size)))
      | (go_at_call 88; refine (HF.out _ hB00).mono ?_; rintro e x4 ⟨v4, rfl, hv4, hb4⟩; have hb4a : Below u.heap.size u x4 := ⟨hb4.os, hb4.tape, hb4.output, hb4.size, hb4.block⟩; have hB4 : Below B u x4 := hb4a.mono hBu; have hlt5 : B < x4.heap.size := Nat.lt_of_lt_of_le HK2.out.2 hb4a.size))
  have hbs := kR6.set2 (.int .i64 s6) (.slice A6 n6 c6)
  have x0 := hbs.cell 0
  have x1 := hbs.cell 1
  simp at x0 x1
  go_wp2_with fail
  refine bodyPost_ret (v := .tuple #[.agg #[.int .i64 s6, .slice A6 n6 c6], .int .i64 E]) (by simp [results, Tryz.results64, go_sem, x0, x1]) rfl ?_
  exact ⟨_, rfl, (hr6.far2 hlt5 _ _).mono (by have := HK2.out.2; have := hb4a.size; omega), below_st (hT.trans (hB6.mono (by omega))) (by omega) _ _⟩

set_option maxRecDepth 100000 in
set_option maxHeartbeats 8000000 in
theorem radd_diff_a {s1 s2 : Int} {A1 A2 : Option Addr} {n1 c1 n2 c2 : Nat} {x y : Int} (w : World) (h1 : BV w w.heap.size (.agg #[.int .i64 s1, .slice A1 n1 c1]) x) (h2 : BV w w.heap.size (.agg #[.int .i64 s2, .slice A2 n2 c2]) y) (hx : ab x < pw 60) (hy : ab y < pw 60) (hc : s1 ≠ 0 ∧ s2 ≠ 0 ∧ s1 ≠ s2) (hlt : ¬ ab x < ab y) :
    Calls Tryz.prog 64 #[.agg #[.int .i64 s1, .slice A1 n1 c1], .agg #[.int .i64 s2, .slice A2 n2 c2]] w fun e w' => ∃ r, e = .returned (.tuple #[r, .int .i64 (fite (x + y))]) ∧ BO w' w.heap.size r (fitz (x + y)) ∧ Below w.heap.size w w' := by
  have hs1 := (bv_sv h1).2.1
  have hs2 := (bv_sv h2).2.1
  have hl1 : (D (ab x)).length ≤ 60 := (D_len_le (ab_nonneg x)).2 hx
  have hl2 : (D (ab y)).length ≤ 60 := (D_len_le (ab_nonneg y)).2 hy
  have hr1 := fun (w' : World) (hbw : Below w.heap.size w w') => rRight_yes (h1.later hbw) hx
  have hr2 := fun (w' : World) (hbw : Below w.heap.size w w') => rRight_yes (h2.later hbw) hy
  have HR1 := Lib.hid hr1; clear hr1
  have HR2 := Lib.hid hr2; clear hr2
  have hnn : 0 ≤ ab x - ab y := by omega
  have hle : ab y ≤ ab x := by omega
  have hval : s1 * (ab x - ab y) = x + y := by rw [hs1, hs2] at hc; rw [hs1]; exact add_diff_a hc hlt
  have hls := fun (w' : World) (hbw : Below w.heap.size w w') => rless_any (D (ab x)) (D (ab y)) (.slice A1 n1 c1) (.slice A2 n2 c2) w' (bv_sv (h1.later hbw)).1 (bv_sv (h2.later hbw)).1 (Dig_D _) (Dig_D _) (by omega) (by omega) false (by rw [nv_D (ab_nonneg x), nv_D (ab_nonneg y)]; simp; omega)
  have hf := fun (w' : World) (hbw : Below w.heap.size w w') => rminus_any (D (ab x)) (D (ab y)) (.slice A1 n1 c1) (.slice A2 n2 c2) w' (bv_sv (h1.later hbw)).1 (bv_sv (h2.later hbw)).1 (Dig_D _) (Dig_D _) (by omega) (D_len_mono (ab_nonneg _) hle) (by rw [nv_D (ab_nonneg x), nv_D (ab_nonneg y)]; exact hle)
  rw [nv_D (ab_nonneg x), nv_D (ab_nonneg y)] at hf
  have hl3 : (D (ab x - ab y)).length ≤ 400 := by
    have := D_len_mono hnn (show ab x - ab y ≤ ab x by have := ab_nonneg y; omega)
    omega
  have hS3 : s1 = 1 ∨ s1 = -1 ∨ ab x - ab y = 0 := by
    have := sgn_bd x
    rw [← hs1] at this
    omega
  have hmd := fun (w' : World) (v : Value) (B : Nat) (h : OwnI w' B v (D (ab x - ab y))) => rmade_any (D (ab x - ab y)) s1 (x + y) v w' h.sv (Dig_D _) hl3 (by rw [nv_D hnn]; exact hval.symm) (by rw [nv_D hnn]; exact hS3)
  have q1 : (s1 == 0) = false := by simpa using hc.1
  have q2 : (s2 == 0) = false := by simpa using hc.2.1
  have q3 : (s1 == s2) = false := by simpa using hc.2.2
  have HFF := Lib.hid hf; clear hf
  have HMD := Lib.hid hmd; clear hmd
  have HLS := Lib.hid hls; clear hls
  obtain ⟨E, hE⟩ : ∃ E, fite (x + y) = E := ⟨_, rfl⟩
  obtain ⟨F, hF⟩ : ∃ E, fitz (x + y) = E := ⟨_, rfl⟩
  rw [hE, hF]
  have HZE := Lib.hid hE; clear hE
  have HZF := Lib.hid hF; clear hF
  clear hs1 hs2 hl1 hl2 hl3 h1 h2 hx hy hnn hS3 hval hle hlt hc
  obtain ⟨W, hW, hbx, k1, k2, kR, hsz⟩ := boxes3 w #[.int .i64 s1, .slice A1 n1 c1] #[.int .i64 s2, .slice A2 n2 c2] #[.int .i64 0, .slice none 0 0]
  go_enter Tryz.func64, Tryz.ntmps64
  go_wp2_with fail
  rw [← hW]
  clear hW hsz
  have hT := hbx
  have a0 := k1.cell 0
  have a1 := k1.cell 1
  simp at a0 a1
  go_wp2_with fail
  clear a0 a1
  (with_reducible refine (HR1.out _ hT).mono ?_)
  rintro e u1 ⟨rfl, hb9⟩
  have hT := hT.trans (hb9.mono hT.size)
  have k1 := k1.below hb9 k1.lt
  have k2 := k2.below hb9 k2.lt
  have kR := kR.below hb9 kR.lt
  have b0 := k2.cell 0
  have b1 := k2.cell 1
  simp at b0 b1
  go_wp2_with fail
  clear b0 b1
  (with_reducible refine (HR2.out _ hT).mono ?_)
  rintro e u ⟨rfl, hb9⟩
  have hT := hT.trans (hb9.mono hT.size)
  have k1 := k1.below hb9 k1.lt
  have k2 := k2.below hb9 k2.lt
  have kR := kR.below hb9 kR.lt
  have a0 := k1.cell 0
  have a1 := k1.cell 1
  have b0 := k2.cell 0
  have b1 := k2.cell 1
  simp at a0 a1 b0 b1
  go_wp2_with fail
  (with_reducible refine (HLS.out _ hT).mono ?_)
  rintro e u' ⟨rfl, rfl⟩
  go_upto_region 7 with fail
  clear a0 a1 b0 b1 q1 q2 q3
  obtain ⟨B, hB⟩ : ∃ B, w.heap.size + 1 + 1 = B := ⟨_, rfl⟩
  have hwB : w.heap.size + 1 < B := by omega
  have hBu : B ≤ u.heap.size := by have := kR.lt; omega
  rw [hB] at kR ⊢
  clear hB
  have kRl := kR.lt
  have kR := And.intro kR kRl
  clear kRl
  have hf := fun (w' : World) (hb : Below B u w') => HFF.out w' (hT.trans (hb.mono (by omega)))
  have HF := Lib.hid hf; clear hf HFF
  have e0 : ∀ W' : World, Below B u W' → W'.cell? ⟨w.heap.size, 0, none⟩ = some (.int .i64 s1) ∧ W'.cell? ⟨w.heap.size, 1, none⟩ = some (.slice A1 n1 c1) ∧ W'.cell? ⟨w.heap.size + 1, 0, none⟩ = some (.int .i64 s2) ∧ W'.cell? ⟨w.heap.size + 1, 1, none⟩ = some (.slice A2 n2 c2) ∧ Below B u W' := fun W' hW =>
    ⟨(k1.below hW (by omega)).cell 0, (k1.below hW (by omega)).cell 1, (k2.below hW (by omega)).cell 0, (k2.below hW (by omega)).cell 1, hW⟩
  have E0 := Lib.hid e0; clear e0
  have hB00 : Below B u u.drew := (Below.refl _ _).drew
  have hge : B ≤ B := Nat.le_refl _
  have HK2 := Lib.hid kR; clear kR
  clear k1 k2
  go_region_held3 (fun W' => W'.cell? ⟨w.heap.size, 0, none⟩ = some (.int .i64 s1) ∧ W'.cell? ⟨w.heap.size, 1, none⟩ = some (.slice A1 n1 c1) ∧ W'.cell? ⟨w.heap.size + 1, 0, none⟩ = some (.int .i64 s2) ∧ W'.cell? ⟨w.heap.size + 1, 1, none⟩ = some (.slice A2 n2 c2) ∧ Below B u W')
    (first | exact E0.out _ (below_st hB6 hge _ _) | exact E0.out _ (by assumption) | exact E0.out _ ⟨rfl, rfl, rfl, Nat.le_refl _, fun _ _ => rfl⟩)
    (first
      | (go_at_call 73; have _h := hr5; refine (rkept_any _ _ _ _ hr5).mono ?_; rintro e x6 ⟨r6, rfl, hr6, hb6⟩; have hB6 : Below B u x6 := hB5.trans (hb6.mono (Nat.le_trans hBu hB5.size)); rw [HZE.out]; rw [HZF.out] at hr6; obtain ⟨s6, A6, n6, c6, rfl⟩ := hr6.form; have kR6 := (HK2.out.1.below (hb4a.mono (Nat.le_refl _)) HK2.out.2).below (hb5.trans (hb6.mono hb5.size)) hlt5; have z0 := kR6.cell 0; have z1 := kR6.cell 1; have y0 := kR6.frozen 0; have y1 := kR6.frozen 1)
      | (go_at_call 67; have _h := hv4; refine (HMD.out _ _ _ hv4).mono ?_; rintro e x5 ⟨r5, rfl, hr5, hb5⟩; have hB5 : Below B u x5 := hB4.trans (hb5.mono (Nat.le_trans hBu hB4.size)))
      | (go_at_call 88; refine (HF.out _ hB00).mono ?_; rintro e x4 ⟨v4, rfl, hv4, hb4⟩; have hb4a : Below u.heap.size u x4 := ⟨hb4.os, hb4.tape, hb4.output, hb4.size, hb4.block⟩; have hB4 : Below B u x4 := hb4a.mono hBu; have hlt5 : B < x4.heap.size := Nat.lt_of_lt_of_le HK2.out.2 hb4a.size))
  have hbs := kR6.set2 (.int .i64 s6) (.slice A6 n6 c6)
  have x0 := hbs.cell 0
  have x1 := hbs.cell 1
  simp at x0 x1
  go_wp2_with fail
  refine bodyPost_ret (v := .tuple #[.agg #[.int .i64 s6, .slice A6 n6 c6], .int .i64 E]) (by simp [results, Tryz.results64, go_sem, x0, x1]) rfl ?_
  exact ⟨_, rfl, (hr6.far2 hlt5 _ _).mono (by have := HK2.out.2; have := hb4a.size; omega), below_st (hT.trans (hB6.mono (by omega))) (by omega) _ _⟩

/-- The reference's Add of two right big integers. -/
theorem raddb_any {s1 s2 : Int} {A1 A2 : Option Addr} {n1 c1 n2 c2 : Nat} {x y : Int} (w : World) (h1 : BV w w.heap.size (.agg #[.int .i64 s1, .slice A1 n1 c1]) x) (h2 : BV w w.heap.size (.agg #[.int .i64 s2, .slice A2 n2 c2]) y) (hx : ab x < pw 60) (hy : ab y < pw 60) :
    Calls Tryz.prog 64 #[.agg #[.int .i64 s1, .slice A1 n1 c1], .agg #[.int .i64 s2, .slice A2 n2 c2]] w fun e w' => ∃ r, e = .returned (.tuple #[r, .int .i64 (fite (x + y))]) ∧ BO w' w.heap.size r (fitz (x + y)) ∧ Below w.heap.size w w' := by
  by_cases hc : s1 = 0 ∨ s2 = 0 ∨ s1 = s2
  · exact radd_same w h1 h2 hx hy hc
  · by_cases hlt : ab x < ab y
    · exact radd_diff_b w h1 h2 hx hy ⟨by omega, by omega, by omega⟩ hlt
    · exact radd_diff_a w h1 h2 hx hy ⟨by omega, by omega, by omega⟩ hlt

end Go.Proofs.YtgpmmpajnfbecaaGreat
