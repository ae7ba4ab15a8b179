/- Walks: the reference's Div, the signs the same or no remainder. Printed by a program (rdivs.py). Walks: the reference's Div, the signs different and a remainder; Div of right arguments. Printed by a program (rdivd.py). Walks: the reference's Int of right arguments. -/
import Derived.Test.YtkjpfnbdlbnbkaaGreatDoorXat
import Derived.Deep.RegionHeld3
import Derived.Test.YtkjpfnbdlbnbkaaGreatDoorXaj
import Derived.Deep.QuietTactic

namespace Go.Proofs.YtkjpfnbdlbnbkaaGreatDoor
open Go.RowKit

set_option maxRecDepth 100000 in
set_option maxHeartbeats 8000000 in
theorem rdiv_same {s1 s2 : Int} {A1 A2 : Option Addr} {n1 c1 n2 c2 : Nat} {x y : Int} (w : World) (h1 : BV w w.heap.size (.agg #[.int .i64 s1, .slice A1 n1 c1]) x) (h2 : BV w w.heap.size (.agg #[.int .i64 s2, .slice A2 n2 c2]) y) (hx : ab x < pw 60) (hy : ab y < pw 60) (hy0 : y ≠ 0) (hc : s1 = s2 ∨ ab x % ab y = 0) :
    Calls Tryz.prog 15 #[.agg #[.int .i64 s1, .slice A1 n1 c1], .agg #[.int .i64 s2, .slice A2 n2 c2]] w (DivP x y w) := by
  have hs1 := (bv_sv h1).2.1
  have hs2 := (bv_sv h2).2.1
  have hl1 : (D (ab x)).length ≤ 60 := (D_len_le (ab_nonneg x)).2 hx
  have hl2 : (D (ab y)).length ≤ 60 := (D_len_le (ab_nonneg y)).2 hy
  have hY : 1 ≤ ab y := by unfold ab; omega
  have hr1 := fun (w' : World) (hbw : Below w.heap.size w w') => rRight_yes (h1.later hbw) hx
  have hr2 := fun (w' : World) (hbw : Below w.heap.size w w') => rRight_yes (h2.later hbw) hy
  have hov := fun (w' : World) (hbw : Below w.heap.size w w') => rover_any (D (ab x)) (D (ab y)) (.slice A1 n1 c1) (.slice A2 n2 c2) w' (bv_sv (h1.later hbw)).1 (bv_sv (h2.later hbw)).1 (Dig_D _) (Dig_D _) (by omega) (by omega) (ab y) (nv_D (ab_nonneg y)) hY
  rw [nv_D (ab_nonneg x)] at hov
  have hq0 := Int.ediv_nonneg (ab_nonneg x) (ab_nonneg y)
  have hm0 := Int.emod_nonneg (ab x) (b := ab y) (by omega)
  have hm1 := Int.emod_lt_of_pos (ab x) (b := ab y) (by omega)
  have hqx : ab x / ab y ≤ ab x := Int.ediv_le_self _ (ab_nonneg x)
  have hqr := (div_same (x := x) (y := y) hy0 (by rw [← hs1, ← hs2]; exact hc)).1
  have hlq : (D (ab x / ab y)).length ≤ 60 := (D_len_le hq0).2 (by omega)
  have hlr : (D (ab x % ab y)).length ≤ 60 := (D_len_le hm0).2 (by omega)
  have hx00 : s1 = 0 → ab x = 0 := by intro h; rw [hs1] at h; unfold sgn at h; unfold ab; split at h <;> (try split at h) <;> omega
  have hq00 : s1 = 0 → ab x / ab y = 0 := fun h => by rw [hx00 h]; exact Int.zero_ediv _
  have hr00 : s1 = 0 → ab x % ab y = 0 := fun h => by rw [hx00 h]; exact Int.zero_emod _
  have hsb1 := sgn_bd x
  have hsb2 := sgn_bd y
  have hs20 : s2 ≠ 0 := by rw [hs2]; unfold sgn; split <;> (try split) <;> omega
  rw [← hs1] at hsb1 hqr
  rw [← hs2] at hsb2 hqr
  have hre : s2 * (ab x % ab y) = s1 * (ab x % ab y) := by
    rcases hc with h | h
    · rw [h]
    · rw [h, Int.mul_zero, Int.mul_zero]
  rw [hre] at hqr
  obtain ⟨Q, hQ⟩ : ∃ z, ab x / ab y = z := ⟨_, rfl⟩
  obtain ⟨R, hR⟩ : ∃ z, ab x % ab y = z := ⟨_, rfl⟩
  rw [hQ] at hov hq0 hqr hlq hq00
  rw [hR] at hov hm0 hqr hlr hc hr00
  have hs3 : s1 = -1 ∨ s1 = 0 ∨ s1 = 1 := by omega
  have hs4 : s2 = -1 ∨ s2 = 1 := by omega
  obtain ⟨P, hP⟩ : ∃ P, s1 * s2 = P := ⟨_, rfl⟩
  have hP3 : (P = 1 ∨ P = -1) ∨ P = 0 := by rw [← hP]; rcases hs3 with h | h | h <;> rcases hs4 with h' | h' <;> rw [h, h'] <;> decide
  have hPs : P = 0 → s1 = 0 := by intro h; rw [← hP] at h; rcases hs3 with g | g | g <;> rcases hs4 with g' | g' <;> rw [g, g'] at h <;> first | exact g | (exfalso; revert h; decide)
  have hPR : 0 ≤ P ∨ (¬ 0 ≤ P ∧ R = 0) := by
    rcases hc with h | h
    · left; rw [← hP, h]; rcases hs4 with g' | g' <;> rw [g'] <;> decide
    · by_cases g : 0 ≤ P
      · exact .inl g
      · exact .inr ⟨g, h⟩
  have hwm : IntKind.i64.wrap (s1 * s2) = P := by rw [hP]; exact IntWalk.i64_in _ (by omega)
  rw [hP] at hqr
  have hmq := fun (v : Value) (w' : World) (hv : Sv w' v (D Q)) => rmade_any (D Q) P (P * Q) v w' hv (Dig_D _) (by omega) (by rw [nv_D hq0]) (by rw [nv_D hq0]; rcases hP3 with (h | h) | h; exact .inl h; exact .inr (.inl h); exact .inr (.inr (hq00 (hPs h))))
  have hmr := fun (v : Value) (w' : World) (hv : Sv w' v (D R)) => rmade_any (D R) s1 (s1 * R) v w' hv (Dig_D _) (by omega) (by rw [nv_D hm0]) (by rw [nv_D hm0]; rcases hs3 with h | h | h; exact .inr (.inl h); exact .inr (.inr (hr00 h)); exact .inl h)
  have hnr0 : R = 0 → (D R).length = 0 := fun h => by rw [h, D_zero]; rfl
  have hsy : (s2 == 0) = false := by simpa using hs20
  have HWM := Lib.hid hwm; clear hwm
  have HR1 := Lib.hid hr1; clear hr1
  have HR2 := Lib.hid hr2; clear hr2
  have HOV := Lib.hid hov; clear hov
  have HMQ := Lib.hid hmq; clear hmq
  have HMR := Lib.hid hmr; clear hmr
  have HQR := Lib.hid hqr; clear hqr
  have HN0 := Lib.hid hnr0; clear hnr0
  have HPR := Lib.hid hPR; clear hPR
  clear h1 h2 hx hy hy0 hc hs1 hs2 hl1 hl2 hY hq0 hm0 hm1 hqx hlq hlr hx00 hq00 hr00 hsb1 hsb2 hs20 hre hQ hR hs3 hs4 hP hP3 hPs
  go_enter Tryz.func15, Tryz.ntmps15
  go_wp2_with fail
  obtain ⟨w1, hw1, hb1, k1, k2, k3, k4, hsz⟩ := boxes4 w #[.int .i64 s1, .slice A1 n1 c1] #[.int .i64 s2, .slice A2 n2 c2] #[.int .i64 0, .slice none 0 0] #[.int .i64 0, .slice none 0 0]
  rw [← hw1]
  clear hw1
  (with_reducible refine (HR1.out w1 hb1).mono ?_)
  rintro e w2 ⟨rfl, hb2⟩
  have k1 := k1.below hb2 k1.lt
  have k2 := k2.below hb2 k2.lt
  have k3 := k3.below hb2 k3.lt
  have k4 := k4.below hb2 k4.lt
  have hb2 := hb1.trans (hb2.mono hb1.size)
  have j1 : w2.cell? ⟨w.heap.size + 1, 0, none⟩ = some (.int .i64 s2) := k2.cell 0
  have j2 : w2.cell? ⟨w.heap.size + 1, 1, none⟩ = some (.slice A2 n2 c2) := k2.cell 1
  go_wp2_with fail
  (with_reducible refine (HR2.out w2 hb2).mono ?_)
  rintro e w3 ⟨rfl, hb3⟩
  clear j1 j2
  have k1 := k1.below hb3 k1.lt
  have k2 := k2.below hb3 k2.lt
  have k3 := k3.below hb3 k3.lt
  have k4 := k4.below hb3 k4.lt
  have hb3 := hb2.trans (hb3.mono hb2.size)
  clear hb1 hb2 HR1 HR2
  obtain ⟨g, hg⟩ : ∃ g, w.heap.size + 1 + 1 = g := ⟨_, rfl⟩
  have hgw : w.heap.size + 1 < g ∧ g + 1 < w3.heap.size := by have := k4.lt; omega
  rw [hg] at k3 k4 ⊢
  clear hg hsz
  have j0 : w3.cell? ⟨w.heap.size, 0, none⟩ = some (.int .i64 s1) := k1.cell 0
  have j1 : w3.cell? ⟨w.heap.size, 1, none⟩ = some (.slice A1 n1 c1) := k1.cell 1
  have j2 : w3.cell? ⟨w.heap.size + 1, 0, none⟩ = some (.int .i64 s2) := k2.cell 0
  have j3 : w3.cell? ⟨w.heap.size + 1, 1, none⟩ = some (.slice A2 n2 c2) := k2.cell 1
  go_wp2_with fail
  (with_reducible refine (HOV.out w3 hb3).mono ?_)
  rintro e w4 ⟨vq, vr, rfl, hoq, hor, hb4⟩
  have hmq := fun w' hb => HMQ.out vq w' (hoq.sv.later' hb)
  have hmr := fun w' hb => HMR.out vr w' (hor.sv.later' hb)
  have HSQ := Lib.hid hmq; clear hmq
  have HSR := Lib.hid hmr; clear hmr
  obtain ⟨Aq, cq, rfl, _, _, _⟩ := hoq.at_
  obtain ⟨Ar, cr, rfl, _, _, _⟩ := hor.at_
  have k1 := k1.below hb4 k1.lt
  have k2 := k2.below hb4 k2.lt
  have k3 := k3.below hb4 (by omega)
  have k4 := k4.below hb4 (by omega)
  clear j0 j1 j2 j3 HOV HMQ HMR hoq hor
  have j0 : w4.cell? ⟨w.heap.size, 0, none⟩ = some (.int .i64 s1) := k1.cell 0
  have j1 : w4.cell? ⟨w.heap.size, 1, none⟩ = some (.slice A1 n1 c1) := k1.cell 1
  have j2 : w4.cell? ⟨w.heap.size + 1, 0, none⟩ = some (.int .i64 s2) := k2.cell 0
  have j3 : w4.cell? ⟨w.heap.size + 1, 1, none⟩ = some (.slice A2 n2 c2) := k2.cell 1
  have hs34 := hb4.size
  have e0 : ∀ W' : World, Below g w4 W' → W'.cell? ⟨w.heap.size, 0, none⟩ = some (.int .i64 s1) ∧ W'.cell? ⟨w.heap.size, 1, none⟩ = some (.slice A1 n1 c1) ∧ W'.cell? ⟨w.heap.size + 1, 0, none⟩ = some (.int .i64 s2) ∧ W'.cell? ⟨w.heap.size + 1, 1, none⟩ = some (.slice A2 n2 c2) ∧ Below g w4 W' := fun W' hW =>
    ⟨(k1.below hW (by omega)).cell 0, (k1.below hW (by omega)).cell 1, (k2.below hW (by omega)).cell 0, (k2.below hW (by omega)).cell 1, hW⟩
  have E0 := Lib.hid e0; clear e0
  have hB00 : Below g w4 w4.drew := (Below.refl _ _).drew
  have hB01 : Below w4.heap.size w4 w4.drew := (Below.refl _ _).drew
  have hgW : g + 1 < w4.heap.size := by omega
  obtain ⟨nq, hnq⟩ : ∃ n, (D Q).length = n := ⟨_, rfl⟩
  obtain ⟨nr, hnr⟩ : ∃ n, (D R).length = n := ⟨_, rfl⟩
  rw [hnq] at HSQ ⊢
  rw [hnr] at HSR HN0 ⊢
  clear hnq hnr
  have hwm := HWM.out
  rcases HPR.out with hp | ⟨hp, hr0⟩
  rotate_left
  · have hn0 := HN0.out hr0
    subst hn0
    have hpd : decide (0 ≤ P) = false := decide_eq_false (by omega)
    clear hr0
    go_upto_region 7 with fail
    clear j0 j1 j2 j3
    go_region_held3 (fun W' => W'.cell? ⟨w.heap.size, 0, none⟩ = some (.int .i64 s1) ∧ W'.cell? ⟨w.heap.size, 1, none⟩ = some (.slice A1 n1 c1) ∧ W'.cell? ⟨w.heap.size + 1, 0, none⟩ = some (.int .i64 s2) ∧ W'.cell? ⟨w.heap.size + 1, 1, none⟩ = some (.slice A2 n2 c2) ∧ Below g w4 W')
      (first | exact E0.out _ (by assumption) | exact E0.out _ ⟨rfl, rfl, rfl, Nat.le_refl _, fun _ _ => rfl⟩)
      (first
        | (go_at_call_of 62 (Value.int .i64 P); (with_reducible refine (HSQ.out _ hB01).mono ?_); rintro e w5 ⟨rq, rfl, hrq, hb5⟩; have hrq4 : BO w5 w4.heap.size rq (P * Q) := hrq; have HRQ := Lib.hid hrq4; obtain ⟨sq', Aq', nq', cq', rfl⟩ := hrq.form; clear hrq hrq4; have hB5 : Below w4.heap.size w4 w5 := ⟨hb5.os, hb5.tape, hb5.output, hb5.size, hb5.block⟩; have hB5g : Below g w4 w5 := hB5.mono (by omega))
        | (go_at_call_of 62 (Value.int .i64 s1); (with_reducible refine (HSR.out _ hB5).mono ?_); rintro e w6 ⟨rr, rfl, hrr, hb6⟩; have HRR := Lib.hid hrr; obtain ⟨sr', Ar', nr', cr', rfl⟩ := hrr.form; clear hrr; have hB6 : Below w4.heap.size w4 w6 := hB5.trans (hb6.mono hB5.size); have hB6g : Below g w4 w6 := hB6.mono (by omega); have hbk := k3.below hB6 (by omega); have hbl := k4.below hB6 (by omega); have q0 : w6.cell? ⟨g, 0, none⟩ = some (.int .i64 0) := hbk.cell 0; have q1 : w6.cell? ⟨g, 1, none⟩ = some (.slice none 0 0) := hbk.cell 1; have f0 := hbk.frozen 0; have f1 := hbk.frozen 1; have q2 : w6.cell? ⟨g + 1, 0, none⟩ = some (.int .i64 0) := hbl.cell 0; have q3 : w6.cell? ⟨g + 1, 1, none⟩ = some (.slice none 0 0) := hbl.cell 1; have f2 := hbl.frozen 0; have f3 := hbl.frozen 1; have hB7 := (hB6g.setCell (p := ⟨g, 0, none⟩) (Nat.le_refl _) (.int .i64 sq')).setCell (p := ⟨g, 1, none⟩) (Nat.le_refl _) (.slice Aq' nq' cq'); have hB8 := (hB7.setCell (p := ⟨g + 1, 0, none⟩) (Nat.le_succ _) (.int .i64 sr')).setCell (p := ⟨g + 1, 1, none⟩) (Nat.le_succ _) (.slice Ar' nr' cr')))
    have hbs := hbk.set2 (.int .i64 sq') (.slice Aq' nq' cq')
    have hbs' := (hbs.far (p := ⟨g + 1, 0, none⟩) (by simp) (.int .i64 sr')).far (p := ⟨g + 1, 1, none⟩) (by simp) (.slice Ar' nr' cr')
    have hbt := ((hbl.far (p := ⟨g, 0, none⟩) (by simp) (.int .i64 sq')).far (p := ⟨g, 1, none⟩) (by simp) (.slice Aq' nq' cq')).set2 (.int .i64 sr') (.slice Ar' nr' cr')
    have hd0 := hbs'.cell 0
    have hd1 := hbs'.cell 1
    have hd2 := hbt.cell 0
    have hd3 := hbt.cell 1
    simp at hd0 hd1 hd2 hd3
    go_wp2_with fail
    refine bodyPost_ret (v := .tuple #[.agg #[.int .i64 sq', .slice Aq' nq' cq'], .agg #[.int .i64 sr', .slice Ar' nr' cr'], .int .i64 0]) (by simp [results, Tryz.results15, go_sem, hd0, hd1, hd2, hd3]) rfl ?_
    have ho1 := ((HRQ.out.below hb6).far2 (g := g) (by omega) (.int .i64 sq') (.slice Aq' nq' cq')).far2 (g := g + 1) (by omega) (.int .i64 sr') (.slice Ar' nr' cr')
    have hs56 := hB5.size
    have ho2 := ((HRR.out.mono hs56).far2 (g := g) (by omega) (.int .i64 sq') (.slice Aq' nq' cq')).far2 (g := g + 1) (by omega) (.int .i64 sr') (.slice Ar' nr' cr')
    have hsz3 := hb3.size
    exact ⟨_, _, _, _, rfl, ho1.mono (by omega), ho2.mono (by omega), HQR.out, (hb3.trans (hb4.mono hsz3)).trans (hB8.mono (by omega))⟩
  · have hpd : decide (0 ≤ P) = true := decide_eq_true hp
    go_upto_region 7 with fail
    clear j0 j1 j2 j3
    go_region_held3 (fun W' => W'.cell? ⟨w.heap.size, 0, none⟩ = some (.int .i64 s1) ∧ W'.cell? ⟨w.heap.size, 1, none⟩ = some (.slice A1 n1 c1) ∧ W'.cell? ⟨w.heap.size + 1, 0, none⟩ = some (.int .i64 s2) ∧ W'.cell? ⟨w.heap.size + 1, 1, none⟩ = some (.slice A2 n2 c2) ∧ Below g w4 W')
      (first | exact E0.out _ (by assumption) | exact E0.out _ ⟨rfl, rfl, rfl, Nat.le_refl _, fun _ _ => rfl⟩)
      (first
        | (go_at_call_of 62 (Value.int .i64 P); (with_reducible refine (HSQ.out _ hB01).mono ?_); rintro e w5 ⟨rq, rfl, hrq, hb5⟩; have hrq4 : BO w5 w4.heap.size rq (P * Q) := hrq; have HRQ := Lib.hid hrq4; obtain ⟨sq', Aq', nq', cq', rfl⟩ := hrq.form; clear hrq hrq4; have hB5 : Below w4.heap.size w4 w5 := ⟨hb5.os, hb5.tape, hb5.output, hb5.size, hb5.block⟩; have hB5g : Below g w4 w5 := hB5.mono (by omega))
        | (go_at_call_of 62 (Value.int .i64 s1); (with_reducible refine (HSR.out _ hB5).mono ?_); rintro e w6 ⟨rr, rfl, hrr, hb6⟩; have HRR := Lib.hid hrr; obtain ⟨sr', Ar', nr', cr', rfl⟩ := hrr.form; clear hrr; have hB6 : Below w4.heap.size w4 w6 := hB5.trans (hb6.mono hB5.size); have hB6g : Below g w4 w6 := hB6.mono (by omega); have hbk := k3.below hB6 (by omega); have hbl := k4.below hB6 (by omega); have q0 : w6.cell? ⟨g, 0, none⟩ = some (.int .i64 0) := hbk.cell 0; have q1 : w6.cell? ⟨g, 1, none⟩ = some (.slice none 0 0) := hbk.cell 1; have f0 := hbk.frozen 0; have f1 := hbk.frozen 1; have q2 : w6.cell? ⟨g + 1, 0, none⟩ = some (.int .i64 0) := hbl.cell 0; have q3 : w6.cell? ⟨g + 1, 1, none⟩ = some (.slice none 0 0) := hbl.cell 1; have f2 := hbl.frozen 0; have f3 := hbl.frozen 1; have hB7 := (hB6g.setCell (p := ⟨g, 0, none⟩) (Nat.le_refl _) (.int .i64 sq')).setCell (p := ⟨g, 1, none⟩) (Nat.le_refl _) (.slice Aq' nq' cq'); have hB8 := (hB7.setCell (p := ⟨g + 1, 0, none⟩) (Nat.le_succ _) (.int .i64 sr')).setCell (p := ⟨g + 1, 1, none⟩) (Nat.le_succ _) (.slice Ar' nr' cr')))
    have hbs := hbk.set2 (.int .i64 sq') (.slice Aq' nq' cq')
    have hbs' := (hbs.far (p := ⟨g + 1, 0, none⟩) (by simp) (.int .i64 sr')).far (p := ⟨g + 1, 1, none⟩) (by simp) (.slice Ar' nr' cr')
    have hbt := ((hbl.far (p := ⟨g, 0, none⟩) (by simp) (.int .i64 sq')).far (p := ⟨g, 1, none⟩) (by simp) (.slice Aq' nq' cq')).set2 (.int .i64 sr') (.slice Ar' nr' cr')
    have hd0 := hbs'.cell 0
    have hd1 := hbs'.cell 1
    have hd2 := hbt.cell 0
    have hd3 := hbt.cell 1
    simp at hd0 hd1 hd2 hd3
    go_wp2_with fail
    refine bodyPost_ret (v := .tuple #[.agg #[.int .i64 sq', .slice Aq' nq' cq'], .agg #[.int .i64 sr', .slice Ar' nr' cr'], .int .i64 0]) (by simp [results, Tryz.results15, go_sem, hd0, hd1, hd2, hd3]) rfl ?_
    have ho1 := ((HRQ.out.below hb6).far2 (g := g) (by omega) (.int .i64 sq') (.slice Aq' nq' cq')).far2 (g := g + 1) (by omega) (.int .i64 sr') (.slice Ar' nr' cr')
    have hs56 := hB5.size
    have ho2 := ((HRR.out.mono hs56).far2 (g := g) (by omega) (.int .i64 sq') (.slice Aq' nq' cq')).far2 (g := g + 1) (by omega) (.int .i64 sr') (.slice Ar' nr' cr')
    have hsz3 := hb3.size
    exact ⟨_, _, _, _, rfl, ho1.mono (by omega), ho2.mono (by omega), HQR.out, (hb3.trans (hb4.mono hsz3)).trans (hB8.mono (by omega))⟩

end Go.Proofs.YtkjpfnbdlbnbkaaGreatDoor

namespace Go.Proofs.YtkjpfnbdlbnbkaaGreatDoor
open Go.RowKit

set_option maxRecDepth 100000 in
set_option maxHeartbeats 8000000 in
theorem rdiv_diff {s1 s2 : Int} {A1 A2 : Option Addr} {n1 c1 n2 c2 : Nat} {x y : Int} (w : World) (h1 : BV w w.heap.size (.agg #[.int .i64 s1, .slice A1 n1 c1]) x) (h2 : BV w w.heap.size (.agg #[.int .i64 s2, .slice A2 n2 c2]) y) (hx : ab x < pw 60) (hy : ab y < pw 60) (hy0 : y ≠ 0) (hc : s1 ≠ s2) (hr : 0 < ab x % ab y) :
    Calls Tryz.prog 15 #[.agg #[.int .i64 s1, .slice A1 n1 c1], .agg #[.int .i64 s2, .slice A2 n2 c2]] w (DivP x y w) := by
  have hs1 := (bv_sv h1).2.1
  have hs2 := (bv_sv h2).2.1
  have hl1 : (D (ab x)).length ≤ 60 := (D_len_le (ab_nonneg x)).2 hx
  have hl2 : (D (ab y)).length ≤ 60 := (D_len_le (ab_nonneg y)).2 hy
  have hY : 1 ≤ ab y := by unfold ab; omega
  have hr1 := fun (w' : World) (hbw : Below w.heap.size w w') => rRight_yes (h1.later hbw) hx
  have hr2 := fun (w' : World) (hbw : Below w.heap.size w w') => rRight_yes (h2.later hbw) hy
  have hov := fun (w' : World) (hbw : Below w.heap.size w w') => rover_any (D (ab x)) (D (ab y)) (.slice A1 n1 c1) (.slice A2 n2 c2) w' (bv_sv (h1.later hbw)).1 (bv_sv (h2.later hbw)).1 (Dig_D _) (Dig_D _) (by omega) (by omega) (ab y) (nv_D (ab_nonneg y)) hY
  rw [nv_D (ab_nonneg x)] at hov
  have hq0 := Int.ediv_nonneg (ab_nonneg x) (ab_nonneg y)
  have hm1 := Int.emod_lt_of_pos (ab x) (b := ab y) (by omega)
  have hqx : ab x / ab y ≤ ab x := Int.ediv_le_self _ (ab_nonneg x)
  have hqr := (div_diff (x := x) (y := y) hy0 (by rw [← hs1, ← hs2]; exact hc) hr).1
  have hm0 : 0 ≤ ab x % ab y := by omega
  have hlq : (D (ab x / ab y)).length ≤ 60 := (D_len_le hq0).2 (by omega)
  have hlr : (D (ab x % ab y)).length ≤ 60 := (D_len_le hm0).2 (by omega)
  have hx00 : s1 ≠ 0 := by
    intro h
    have : ab x = 0 := by rw [hs1] at h; unfold sgn at h; unfold ab; split at h <;> (try split at h) <;> omega
    rw [this, Int.zero_emod] at hr
    omega
  have hsb1 := sgn_bd x
  have hsb2 := sgn_bd y
  have hs20 : s2 ≠ 0 := by rw [hs2]; unfold sgn; split <;> (try split) <;> omega
  rw [← hs1] at hsb1
  rw [← hs2] at hsb2 hqr
  have hpl := fun (vq : Value) (w' : World) (v : Value) (hq : Sv w' vq (D (ab x / ab y))) (hv : Sv w' v [1]) => rplus_any (D (ab x / ab y)) [1] vq v w' hq hv (Dig_D _) (dig_one (by decide) (by decide)) (by omega) (by simp)
  rw [nv_D hq0, nv_one] at hpl
  have hmi := fun (vr : Value) (w' : World) (hb : Below w.heap.size w w') (hv : Sv w' vr (D (ab x % ab y))) => rminus_any (D (ab y)) (D (ab x % ab y)) (.slice A2 n2 c2) vr w' (bv_sv (h2.later hb)).1 hv (Dig_D _) (Dig_D _) (by omega) (D_len_mono hm0 (by omega)) (by rw [nv_D hm0, nv_D (ab_nonneg y)]; omega)
  rw [nv_D hm0, nv_D (ab_nonneg y)] at hmi
  have hlq1 : (D (ab x / ab y + 1)).length ≤ 400 := (D_len_le (by omega)).2 (by have := pw_le (show 60 + 1 ≤ 400 by omega); rw [pw_succ] at this; have := pw_pos 60; omega)
  have hlr1 : (D (ab y - ab x % ab y)).length ≤ 400 := by have := D_len_mono (show 0 ≤ ab y - ab x % ab y by omega) (show ab y - ab x % ab y ≤ ab y by omega); omega
  have hmq := fun (v : Value) (w' : World) (hv : Sv w' v (D (ab x / ab y + 1))) => rmade_any (D (ab x / ab y + 1)) (-1) (-(ab x / ab y + 1)) v w' hv (Dig_D _) hlq1 (by rw [nv_D (by omega)]; omega) (.inr (.inl rfl))
  have hmr := fun (v : Value) (w' : World) (hv : Sv w' v (D (ab y - ab x % ab y))) => rmade_any (D (ab y - ab x % ab y)) s2 (s2 * (ab y - ab x % ab y)) v w' hv (Dig_D _) hlr1 (by rw [nv_D (by omega)]) (by omega)
  have hlr0 : 0 < (D (ab x % ab y)).length := D_len_pos hr
  obtain ⟨Q, hQ⟩ : ∃ z, ab x / ab y = z := ⟨_, rfl⟩
  obtain ⟨R, hR⟩ : ∃ z, ab x % ab y = z := ⟨_, rfl⟩
  rw [hQ] at hov hqr hpl hmq
  rw [hR] at hov hqr hmi hmr hlr0
  obtain ⟨Q1, hQ1⟩ : ∃ z, Q + 1 = z := ⟨_, rfl⟩
  obtain ⟨R1, hR1⟩ : ∃ z, ab y - R = z := ⟨_, rfl⟩
  rw [hQ1] at hqr hpl hmq
  rw [hR1] at hqr hmi hmr
  have hs3 : s1 = -1 ∨ s1 = 1 := by omega
  have hs4 : s2 = -1 ∨ s2 = 1 := by omega
  have hP : s1 * s2 = -1 := by rcases hs3 with h | h <;> rcases hs4 with h' | h' <;> rw [h, h'] <;> first | rfl | (exfalso; omega)
  have hwm : IntKind.i64.wrap (s1 * s2) = -1 := by rw [hP]; decide
  have hsy : (s2 == 0) = false := by simpa using hs20
  have HWM := Lib.hid hwm; clear hwm
  have HR1 := Lib.hid hr1; clear hr1
  have HR2 := Lib.hid hr2; clear hr2
  have HOV := Lib.hid hov; clear hov
  have HMQ := Lib.hid hmq; clear hmq
  have HMR := Lib.hid hmr; clear hmr
  have HPL := Lib.hid hpl; clear hpl
  have HMI := Lib.hid hmi; clear hmi
  have HQR := Lib.hid hqr; clear hqr
  clear h1 h2 hx hy hy0 hc hs1 hs2 hl1 hl2 hY hq0 hm0 hm1 hqx hlq hlr hx00 hsb1 hsb2 hs20 hQ1 hR1 hQ hR hs3 hs4 hP hr hlq1 hlr1
  go_enter Tryz.func15, Tryz.ntmps15
  go_wp2_with fail
  obtain ⟨w1, hw1, hb1, k1, k2, k3, k4, hsz⟩ := boxes4 w #[.int .i64 s1, .slice A1 n1 c1] #[.int .i64 s2, .slice A2 n2 c2] #[.int .i64 0, .slice none 0 0] #[.int .i64 0, .slice none 0 0]
  rw [← hw1]
  clear hw1
  (with_reducible refine (HR1.out w1 hb1).mono ?_)
  rintro e w2 ⟨rfl, hb2⟩
  have k1 := k1.below hb2 k1.lt
  have k2 := k2.below hb2 k2.lt
  have k3 := k3.below hb2 k3.lt
  have k4 := k4.below hb2 k4.lt
  have hb2 := hb1.trans (hb2.mono hb1.size)
  have j1 : w2.cell? ⟨w.heap.size + 1, 0, none⟩ = some (.int .i64 s2) := k2.cell 0
  have j2 : w2.cell? ⟨w.heap.size + 1, 1, none⟩ = some (.slice A2 n2 c2) := k2.cell 1
  go_wp2_with fail
  (with_reducible refine (HR2.out w2 hb2).mono ?_)
  rintro e w3 ⟨rfl, hb3⟩
  clear j1 j2
  have k1 := k1.below hb3 k1.lt
  have k2 := k2.below hb3 k2.lt
  have k3 := k3.below hb3 k3.lt
  have k4 := k4.below hb3 k4.lt
  have hb3 := hb2.trans (hb3.mono hb2.size)
  clear hb1 hb2 HR1 HR2
  obtain ⟨g, hg⟩ : ∃ g, w.heap.size + 1 + 1 = g := ⟨_, rfl⟩
  have hgw : w.heap.size + 1 < g ∧ g + 1 < w3.heap.size := by have := k4.lt; omega
  rw [hg] at k3 k4 ⊢
  clear hg hsz
  have j0 : w3.cell? ⟨w.heap.size, 0, none⟩ = some (.int .i64 s1) := k1.cell 0
  have j1 : w3.cell? ⟨w.heap.size, 1, none⟩ = some (.slice A1 n1 c1) := k1.cell 1
  have j2 : w3.cell? ⟨w.heap.size + 1, 0, none⟩ = some (.int .i64 s2) := k2.cell 0
  have j3 : w3.cell? ⟨w.heap.size + 1, 1, none⟩ = some (.slice A2 n2 c2) := k2.cell 1
  go_wp2_with fail
  (with_reducible refine (HOV.out w3 hb3).mono ?_)
  rintro e w4 ⟨vq, vr, rfl, hoq, hor, hb4⟩
  have hpl := fun w' hb v hv => HPL.out vq w' v (hoq.sv.later' hb) hv
  have hmi := fun w' hb hb2 => HMI.out vr w' hb2 (hor.sv.later' hb)
  have HSQ := Lib.hid hpl; clear hpl
  have HSR := Lib.hid hmi; clear hmi
  obtain ⟨Aq, cq, rfl, _, _, _⟩ := hoq.at_
  obtain ⟨Ar, cr, rfl, _, _, _⟩ := hor.at_
  have k1 := k1.below hb4 k1.lt
  have k2 := k2.below hb4 k2.lt
  have k3 := k3.below hb4 (by omega)
  have k4 := k4.below hb4 (by omega)
  clear j0 j1 j2 j3 HOV HPL HMI hoq hor
  have j0 : w4.cell? ⟨w.heap.size, 0, none⟩ = some (.int .i64 s1) := k1.cell 0
  have j1 : w4.cell? ⟨w.heap.size, 1, none⟩ = some (.slice A1 n1 c1) := k1.cell 1
  have j2 : w4.cell? ⟨w.heap.size + 1, 0, none⟩ = some (.int .i64 s2) := k2.cell 0
  have j3 : w4.cell? ⟨w.heap.size + 1, 1, none⟩ = some (.slice A2 n2 c2) := k2.cell 1
  have hs34 := hb4.size
  have e0 : ∀ W' : World, Below g w4 W' → W'.cell? ⟨w.heap.size, 0, none⟩ = some (.int .i64 s1) ∧ W'.cell? ⟨w.heap.size, 1, none⟩ = some (.slice A1 n1 c1) ∧ W'.cell? ⟨w.heap.size + 1, 0, none⟩ = some (.int .i64 s2) ∧ W'.cell? ⟨w.heap.size + 1, 1, none⟩ = some (.slice A2 n2 c2) ∧ Below g w4 W' := fun W' hW =>
    ⟨(k1.below hW (by omega)).cell 0, (k1.below hW (by omega)).cell 1, (k2.below hW (by omega)).cell 0, (k2.below hW (by omega)).cell 1, hW⟩
  have E0 := Lib.hid e0; clear e0
  have hB00 : Below g w4 w4.drew := (Below.refl _ _).drew
  have hB01 : Below w4.heap.size w4 w4.drew := (Below.refl _ _).drew
  have hgW : g + 1 < w4.heap.size := by omega
  have hB02 := ((Below.refl w4.heap.size w4).alloc (Nat.le_refl _) (.cells #[.int .i64 1] 3)).drew
  have hB03 : Below g w4 (w4.alloc (.cells #[.int .i64 1] 3)).drew := hB02.mono (by omega)
  have hlit := (sv_lit1 w4 1).later' (Below.refl _ _).drew
  have HLIT := Lib.hid hlit; clear hlit
  have hb04 := hb3.trans (hb4.mono hb3.size)
  obtain ⟨nq, hnq⟩ : ∃ n, (D Q).length = n := ⟨_, rfl⟩
  obtain ⟨nr, hnr⟩ : ∃ n, (D R).length = n := ⟨_, rfl⟩
  rw [hnq] at HSQ ⊢
  rw [hnr] at HSR hlr0 ⊢
  clear hnq hnr
  have hwm := HWM.out
  go_upto_region 8 with fail
  clear j0 j1 j2 j3
  go_region_held3 (fun W' => W'.cell? ⟨w.heap.size, 0, none⟩ = some (.int .i64 s1) ∧ W'.cell? ⟨w.heap.size, 1, none⟩ = some (.slice A1 n1 c1) ∧ W'.cell? ⟨w.heap.size + 1, 0, none⟩ = some (.int .i64 s2) ∧ W'.cell? ⟨w.heap.size + 1, 1, none⟩ = some (.slice A2 n2 c2) ∧ Below g w4 W')
    (first | exact E0.out _ hB03 | exact E0.out _ (by assumption) | exact E0.out _ ⟨rfl, rfl, rfl, Nat.le_refl _, fun _ _ => rfl⟩)
    (first
      | (go_at_call 63; (with_reducible refine (HSQ.out _ hB02 _ HLIT.out).mono ?_); rintro e w5 ⟨v5, rfl, ho5, hb5⟩; have hB5 : Below w4.heap.size w4 w5 := hB02.trans (hb5.mono hB02.size); have hB5g : Below g w4 w5 := hB5.mono (by omega))
      | (go_at_call 62; (with_reducible refine (HMQ.out _ _ ho5.sv).mono ?_); rintro e w6 ⟨rq, rfl, hrq, hb6⟩; have hrq4 : BO w6 w4.heap.size rq (-Q1) := hrq.mono hB5.size; have HRQ := Lib.hid hrq4; obtain ⟨sq', Aq', nq', cq', rfl⟩ := hrq.form; clear hrq hrq4; have hB6 : Below w4.heap.size w4 w6 := hB5.trans (hb6.mono hB5.size); have hB6g : Below g w4 w6 := hB6.mono (by omega))
      | (go_at_call 65; (with_reducible refine (HSR.out _ hB6 (hb04.trans (hB6.mono hb04.size))).mono ?_); rintro e w7 ⟨v7, rfl, ho7, hb7⟩; have hB7w : Below w4.heap.size w4 w7 := hB6.trans (hb7.mono hB6.size); have hB7g : Below g w4 w7 := hB7w.mono (by omega))
      | (go_at_call_of 62 (Value.int .i64 s2); (with_reducible refine (HMR.out _ _ ho7.sv).mono ?_); rintro e w8 ⟨rr, rfl, hrr, hb8⟩; have hrr4 : BO w8 w4.heap.size rr (s2 * R1) := hrr.mono hB7w.size; have HRR := Lib.hid hrr4; obtain ⟨sr', Ar', nr', cr', rfl⟩ := hrr.form; clear hrr hrr4; have hB8w : Below w4.heap.size w4 w8 := hB7w.trans (hb8.mono hB7w.size); have hB8g : Below g w4 w8 := hB8w.mono (by omega); have hbk := k3.below hB8w (by omega); have hbl := k4.below hB8w (by omega); have q0 : w8.cell? ⟨g, 0, none⟩ = some (.int .i64 0) := hbk.cell 0; have q1 : w8.cell? ⟨g, 1, none⟩ = some (.slice none 0 0) := hbk.cell 1; have f0 := hbk.frozen 0; have f1 := hbk.frozen 1; have q2 : w8.cell? ⟨g + 1, 0, none⟩ = some (.int .i64 0) := hbl.cell 0; have q3 : w8.cell? ⟨g + 1, 1, none⟩ = some (.slice none 0 0) := hbl.cell 1; have f2 := hbl.frozen 0; have f3 := hbl.frozen 1; have hB7 := (hB8g.setCell (p := ⟨g, 0, none⟩) (Nat.le_refl _) (.int .i64 sq')).setCell (p := ⟨g, 1, none⟩) (Nat.le_refl _) (.slice Aq' nq' cq'); have hB8 := (hB7.setCell (p := ⟨g + 1, 0, none⟩) (Nat.le_succ _) (.int .i64 sr')).setCell (p := ⟨g + 1, 1, none⟩) (Nat.le_succ _) (.slice Ar' nr' cr')))
  have hbs := hbk.set2 (.int .i64 sq') (.slice Aq' nq' cq')
  have hbs' := (hbs.far (p := ⟨g + 1, 0, none⟩) (by simp) (.int .i64 sr')).far (p := ⟨g + 1, 1, none⟩) (by simp) (.slice Ar' nr' cr')
  have hbt := ((hbl.far (p := ⟨g, 0, none⟩) (by simp) (.int .i64 sq')).far (p := ⟨g, 1, none⟩) (by simp) (.slice Aq' nq' cq')).set2 (.int .i64 sr') (.slice Ar' nr' cr')
  have hd0 := hbs'.cell 0
  have hd1 := hbs'.cell 1
  have hd2 := hbt.cell 0
  have hd3 := hbt.cell 1
  simp at hd0 hd1 hd2 hd3
  go_wp2_with fail
  refine bodyPost_ret (v := .tuple #[.agg #[.int .i64 sq', .slice Aq' nq' cq'], .agg #[.int .i64 sr', .slice Ar' nr' cr'], .int .i64 0]) (by simp [results, Tryz.results15, go_sem, hd0, hd1, hd2, hd3]) rfl ?_
  have ho1 := ((HRQ.out.below (hb7.trans (hb8.mono hb7.size))).far2 (g := g) (by omega) (.int .i64 sq') (.slice Aq' nq' cq')).far2 (g := g + 1) (by omega) (.int .i64 sr') (.slice Ar' nr' cr')
  have ho2 := (HRR.out.far2 (g := g) (by omega) (.int .i64 sq') (.slice Aq' nq' cq')).far2 (g := g + 1) (by omega) (.int .i64 sr') (.slice Ar' nr' cr')
  have hsz3 := hb3.size
  exact ⟨_, _, _, _, rfl, ho1.mono (by omega), ho2.mono (by omega), HQR.out, (hb3.trans (hb4.mono hsz3)).trans (hB8.mono (by omega))⟩

/-- The reference's Div of two right big integers, the second not 0. -/
theorem rdiv_any {s1 s2 : Int} {A1 A2 : Option Addr} {n1 c1 n2 c2 : Nat} {x y : Int} (w : World) (h1 : BV w w.heap.size (.agg #[.int .i64 s1, .slice A1 n1 c1]) x) (h2 : BV w w.heap.size (.agg #[.int .i64 s2, .slice A2 n2 c2]) y) (hx : ab x < pw 60) (hy : ab y < pw 60) (hy0 : y ≠ 0) :
    Calls Tryz.prog 15 #[.agg #[.int .i64 s1, .slice A1 n1 c1], .agg #[.int .i64 s2, .slice A2 n2 c2]] w (DivP x y w) := by
  by_cases hc : s1 = s2 ∨ ab x % ab y = 0
  · exact rdiv_same w h1 h2 hx hy hy0 hc
  · have hY : 1 ≤ ab y := by unfold ab; omega
    have := Int.emod_nonneg (ab x) (b := ab y) (by omega)
    exact rdiv_diff w h1 h2 hx hy hy0 (by omega) (by omega)

end Go.Proofs.YtkjpfnbdlbnbkaaGreatDoor

namespace Go.Proofs.YtkjpfnbdlbnbkaaGreatDoor
open Go.RowKit

theorem ci_of (x y : Int) : Lib.compareInt x y = if x < y then -1 else if x = y then 0 else 1 := by
  rcases Int.lt_trichotomy x y with h | h | h
  · rw [cmp_of_lt h, if_pos h]
  · rw [cmp_of_eq h, if_neg (by omega), if_pos h]
  · rw [cmp_of_gt h, if_neg (by omega), if_neg (by omega)]

theorem int_step {z s1 N : Int} {j : Nat} (hs : s1 = sgn z) (h0 : -9223372036854775808 ≤ z) (h1 : z ≤ 9223372036854775807) (hN : N = s1 * nv ((D (ab z)).drop (j + 1))) (hj : j < (D (ab z)).length) :
    0 ≤ (D (ab z)).getD j 0 ∧ (D (ab z)).getD j 0 < 1048576 ∧ -9223372036854775808 ≤ N * 1048576 ∧ N * 1048576 ≤ 9223372036854775807 ∧ -1048576 ≤ s1 * (D (ab z)).getD j 0 ∧ s1 * (D (ab z)).getD j 0 ≤ 1048576 ∧
      -9223372036854775808 ≤ N * 1048576 + s1 * (D (ab z)).getD j 0 ∧ N * 1048576 + s1 * (D (ab z)).getD j 0 ≤ 9223372036854775807 ∧ N * 1048576 + s1 * (D (ab z)).getD j 0 = s1 * nv ((D (ab z)).drop j) := by
  have hd := (Dig_D (ab z)).getD' j
  have h2 := nv_drop (D (ab z)) j
  rw [nv_D (ab_nonneg z), nv_drop_any] at h2
  have h3 := (Dig_D (ab z)).take_lt j
  have h4 := ((Dig_D (ab z)).drop (j + 1)).nv_nonneg
  have h5 := pw_pos j
  rw [nv_drop_any (D (ab z)) j]
  have hzn : z ≠ 0 := fun e => by
    rw [e, ab_zero, D_zero] at hj
    simp at hj
  obtain ⟨U, hU⟩ : ∃ U, nv ((D (ab z)).drop (j + 1)) = U := ⟨_, rfl⟩
  rw [hU] at h2 h4 hN ⊢
  obtain ⟨d, hdd⟩ : ∃ d, (D (ab z)).getD j 0 = d := ⟨_, rfl⟩
  rw [hdd] at hd h2 ⊢
  have h6 : 1 * (d + 1048576 * U) ≤ pw j * (d + 1048576 * U) := Int.mul_le_mul_of_nonneg_right (by omega) (by omega)
  have hab : ab z = if z < 0 then -z else z := by unfold ab; split <;> omega
  have hsg : s1 = if z < 0 then -1 else 1 := by
    rw [hs]
    unfold sgn
    split <;> first | rfl | simp [hzn]
  split at hab <;> rename_i hz
  · rw [if_pos hz] at hsg
    subst hsg
    omega
  · rw [if_neg hz] at hsg
    subst hsg
    omega
theorem below_drN {B : Nat} {w w' : World} (h : Below B w w') (n : Nat) : Below B w (w'.drewN n) := ⟨h.os, h.tape, h.output, h.size, h.block⟩

theorem int_small {y : Int} (h0 : -9223372036854775808 ≤ y) (h1 : y ≤ 9223372036854775807) : ab y < pw 60 := by
  have h2 := pw_le (a := 4) (b := 60) (by omega)
  rw [pw4] at h2
  unfold ab
  omega

set_option maxRecDepth 100000 in
set_option maxHeartbeats 8000000 in
theorem rint_any {s1 : Int} {A1 : Option Addr} {n1 c1 : Nat} {z : Int} (w : World) (h1 : BV w w.heap.size (.agg #[.int .i64 s1, .slice A1 n1 c1]) z) (hz : ab z < pw 60) :
    Calls Tryz.prog 17 #[.agg #[.int .i64 s1, .slice A1 n1 c1]] w fun e w' => e = .returned (IntV z) ∧ Below w.heap.size w w' := by
  have HSG := Lib.hid (bv_sv h1).2.1
  have hb1 := (Below.refl w.heap.size w).alloc (Nat.le_refl _) (.cells #[.int .i64 s1, .slice A1 n1 c1] 24)
  have k1 := Blk.new w 24 #[.int .i64 s1, .slice A1 n1 c1]
  obtain ⟨W, hW⟩ : ∃ W, w.alloc (.cells #[.int .i64 s1, .slice A1 n1 c1] 24) = W := ⟨_, rfl⟩
  have HW := Lib.hid hW
  rw [hW] at hb1 k1
  clear hW
  have hrr := fun (w' : World) (hbw : Below w.heap.size w w') => rRight_yes (h1.later hbw) hz
  have HRR := Lib.hid hrr; clear hrr
  have H1 := Lib.hid h1; clear h1
  have hsW := hb1.size
  have hgW := k1.lt
  have e0 : ∀ W' : World, Below W.heap.size W W' → W'.cell? ⟨w.heap.size, 0, none⟩ = some (.int .i64 s1) ∧ W'.cell? ⟨w.heap.size, 1, none⟩ = some (.slice A1 n1 c1) ∧ Below W.heap.size W W' := fun W' hW => ⟨(k1.below hW k1.lt).cell 0, (k1.below hW k1.lt).cell 1, hW⟩
  have E0 := Lib.hid e0; clear e0 k1
  go_enter Tryz.func17, Tryz.ntmps17
  go_wp2_with fail
  rw [HW.out]
  (with_reducible refine (HRR.out _ hb1).mono ?_)
  rintro e w2 ⟨rfl, hb2⟩
  have hb02 := hb1.trans (hb2.mono hsW)
  obtain ⟨q0, q1, _⟩ := E0.out _ hb2
  go_wp2_with fail
  have hln : (D (ab z)).length = n1 ∧ IntsAt w.heap.size w A1 (D (ab z)) := by
    obtain ⟨A', c', e, _, _, hI⟩ := H1.out
    simp at e
    obtain ⟨_, ⟨rfl, e2, _⟩⟩ := e
    exact ⟨e2.symm, hI⟩
  have HLN := Lib.hid hln.1
  have HI := Lib.hid hln.2
  clear hln
  have hn1 : n1 ≤ 60 := by rw [← HLN.out]; exact (D_len_le (ab_nonneg z)).2 hz
  have e2 : ∀ W' : World, Below w2.heap.size w2 W' → W'.cell? ⟨w.heap.size, 0, none⟩ = some (.int .i64 s1) ∧ W'.cell? ⟨w.heap.size, 1, none⟩ = some (.slice A1 n1 c1) ∧ Below w2.heap.size w2 W' := fun W' hW => by
    obtain ⟨a0, a1, _⟩ := E0.out W' (hb2.trans (hW.mono hb2.size))
    exact ⟨a0, a1, hW⟩
  have E2 := Lib.hid e2; clear e2
  have hB00 : Below w2.heap.size w2 w2.drew := (Below.refl _ _).drew
  have hs2 := hb02.size
  have hcc : ∀ (y C : Int), Lib.compareInt z y = C → ab y < pw 60 → ∀ (w' : World) (s : Int) (A : Option Addr) (n c : Nat), Below w2.heap.size w2 w' → BV w' w'.heap.size (.agg #[.int .i64 s, .slice A n c]) y →
      Calls Tryz.prog 25 #[.agg #[.int .i64 s1, .slice A1 n1 c1], .agg #[.int .i64 s, .slice A n c]] w' fun e w'' => e = .returned (.int .i64 C) ∧ Below w'.heap.size w' w'' := fun y C hC hy w' s A n c hw hv => by
    rw [← hC]
    exact rcmp_any w' (H1.out.later (hb02.trans (hw.mono hs2))) hv hz hy
  have hy1 : ab (-9223372036854775808) < pw 60 := int_small (by omega) (by omega)
  have hy2 : ab 9223372036854775807 < pw 60 := int_small (by omega) (by omega)
  by_cases hlo : z < -9223372036854775808
  · have HC1 := Lib.hid (hcc (-9223372036854775808) (-1) (by rw [ci_of, if_pos hlo]) hy1)
    have HIV : Hid (IntV z = .tuple #[.int .i64 0, .bool false]) := Lib.hid (IntV.no (fun h => by have := h.1; omega))
    clear hcc hy1 hy2 hlo hz q0 q1
    refine wp_region_noPanic ?_
    refine wp_region_held_drew (S := (fun W' => W'.cell? ⟨w.heap.size, 0, none⟩ = some (.int .i64 s1) ∧ W'.cell? ⟨w.heap.size, 1, none⟩ = some (.slice A1 n1 c1) ∧ Below w2.heap.size w2 W')) (by kernel_rfl) (E2.out _ hB00) (fun hHeld => ?_)
    refine wpAnyH_take (i := 0) (oi := { dst := some 10, op := Op.load 24 (Operand.tmp 1), type := 24, pos := "ref.go:188", after := #[], guard := none }) (v := ?_) rfl (by kernel_rfl) (by kernel_rfl) (by kernel_rfl) (fun _ _ _ h => h) (Or.inl ⟨by rfl, ?_⟩) (by assumption) ?_
    rotate_left
    · (intro w hSw; (try dsimp only at hSw); go_simp; try with_reducible rfl)
    (try simp only [Act.put, List.setIfInBounds_toArray, List.set_cons_zero, List.set_cons_succ])
    refine wpAnyH_take (i := 1) (oi := { dst := some 11, op := Op.move (Operand.tmp 4), type := 3, pos := "ref.go:188", after := #[], guard := none }) (v := ?_) rfl (by kernel_rfl) (by kernel_rfl) (by kernel_rfl) (fun _ _ _ h => h) (Or.inl ⟨by rfl, ?_⟩) (by assumption) ?_
    rotate_left
    · (intro w hSw; (try dsimp only at hSw); go_simp; try with_reducible rfl)
    (try simp only [Act.put, List.setIfInBounds_toArray, List.set_cons_zero, List.set_cons_succ])
    refine wpAnyH_ready (rs := [2]) (by kernel_rfl) (by simp) ?_
    refine AllReadyH.cons (o := { dst := some 12, op := Op.call { callee := Callee.value (Operand.func 32), args := #[Operand.tmp 11], argTypes := #[3] }, type := 24, pos := "ref.go:188", after := #[{ on := 1, ground := Ground.data }], guard := none }) rfl (fun K hK => ?_) AllReadyH.nil
    go_simp
    refine (rof_any (-9223372036854775808) _ (by omega) (by omega)).mono ?_
    rintro e w4 ⟨r4, rfl, hr4, hb4⟩
    have hB4 := (show Below w2.heap.size w2 w4 from ⟨hb4.os, hb4.tape, hb4.output, hb4.size, hb4.block⟩)
    obtain ⟨sr, Ar_, nr, cr, rfl⟩ := hr4.form
    (try go_simp)
    refine hK.out _ _ (E2.out _ hB4) (fun hHeld => ?_)
    clear hK K
    (try simp only [Act.put, List.setIfInBounds_toArray, List.set_cons_zero, List.set_cons_succ])
    refine wpAnyH_ready (rs := [3]) (by kernel_rfl) (by simp) ?_
    refine AllReadyH.cons (o := { dst := some 13, op := Op.call { callee := Callee.value (Operand.func 25), args := #[Operand.tmp 10, Operand.tmp 12], argTypes := #[24, 24] }, type := 3, pos := "ref.go:188", after := #[{ on := 0, ground := Ground.data }, { on := 2, ground := Ground.data }, { on := 2, ground := Ground.chain }], guard := none }) rfl (fun K hK => ?_) AllReadyH.nil
    go_simp
    refine (HC1.out _ _ _ _ _ hB4 hr4.bv).mono ?_
    rintro e w5 ⟨rfl, hb5⟩
    have hB5 := hB4.trans (hb5.mono hB4.size)
    (try go_simp)
    refine hK.out _ _ (E2.out _ hB5) (fun hHeld => ?_)
    clear hK K
    (try simp only [Act.put, List.setIfInBounds_toArray, List.set_cons_zero, List.set_cons_succ])
    refine wpAnyH_take (i := 4) (oi := { dst := some 14, op := Op.binOp BinOp.lss 3 (Operand.tmp 13) (Operand.const (Value.int IntKind.i64 0)) 3, type := 4, pos := "ref.go:188", after := #[{ on := 3, ground := Ground.data }], guard := none }) (v := ?_) rfl (by kernel_rfl) (by kernel_rfl) (by kernel_rfl) (fun _ _ _ h => h) (Or.inl ⟨by rfl, ?_⟩) (by assumption) ?_
    rotate_left
    · (intro w hSw; (try dsimp only at hSw); go_simp; try with_reducible rfl)
    (try simp only [Act.put, List.setIfInBounds_toArray, List.set_cons_zero, List.set_cons_succ])
    refine wpAnyH_take (i := 5) (oi := { dst := some 15, op := Op.move (Operand.tmp 14), type := 4, pos := "ref.go:188", after := #[{ on := 4, ground := Ground.data }, { on := 3, ground := Ground.chain }], guard := none }) (v := ?_) rfl (by kernel_rfl) (by kernel_rfl) (by kernel_rfl) (fun _ _ _ h => h) (Or.inl ⟨by rfl, ?_⟩) (by assumption) ?_
    rotate_left
    · (intro w hSw; (try dsimp only at hSw); go_simp; try with_reducible rfl)
    (try simp only [Act.put, List.setIfInBounds_toArray, List.set_cons_zero, List.set_cons_succ])
    refine wpAnyH_take (i := 6) (oi := { dst := some 16, op := Op.load 24 (Operand.tmp 1), type := 24, pos := "ref.go:188", after := #[{ on := 5, ground := Ground.guard }], guard := some (5, false) }) (v := undef) rfl (by kernel_rfl) (by kernel_rfl) (by kernel_rfl) (fun _ _ _ h => h) (Or.inr ⟨by rfl, rfl⟩) (by assumption) ?_
    (try simp only [Act.put, List.setIfInBounds_toArray, List.set_cons_zero, List.set_cons_succ])
    refine wpAnyH_take (i := 7) (oi := { dst := some 17, op := Op.call { callee := Callee.value (Operand.func 32), args := #[Operand.const (Value.int IntKind.i64 9223372036854775807)], argTypes := #[3] }, type := 24, pos := "ref.go:188", after := #[{ on := 5, ground := Ground.chain }, { on := 5, ground := Ground.guard }], guard := some (5, false) }) (v := undef) rfl (by kernel_rfl) (by kernel_rfl) (by kernel_rfl) (fun _ _ _ h => h) (Or.inr ⟨by rfl, rfl⟩) (by assumption) ?_
    (try simp only [Act.put, List.setIfInBounds_toArray, List.set_cons_zero, List.set_cons_succ])
    refine wpAnyH_take (i := 8) (oi := { dst := some 18, op := Op.call { callee := Callee.value (Operand.func 25), args := #[Operand.tmp 16, Operand.tmp 17], argTypes := #[24, 24] }, type := 3, pos := "ref.go:188", after := #[{ on := 6, ground := Ground.data }, { on := 7, ground := Ground.data }, { on := 7, ground := Ground.chain }, { on := 5, ground := Ground.guard }], guard := some (5, false) }) (v := undef) rfl (by kernel_rfl) (by kernel_rfl) (by kernel_rfl) (fun _ _ _ h => h) (Or.inr ⟨by rfl, rfl⟩) (by assumption) ?_
    (try simp only [Act.put, List.setIfInBounds_toArray, List.set_cons_zero, List.set_cons_succ])
    refine wpAnyH_take (i := 9) (oi := { dst := some 19, op := Op.binOp BinOp.gtr 3 (Operand.tmp 18) (Operand.const (Value.int IntKind.i64 0)) 3, type := 4, pos := "ref.go:188", after := #[{ on := 8, ground := Ground.data }, { on := 5, ground := Ground.guard }], guard := some (5, false) }) (v := undef) rfl (by kernel_rfl) (by kernel_rfl) (by kernel_rfl) (fun _ _ _ h => h) (Or.inr ⟨by rfl, rfl⟩) (by assumption) ?_
    (try simp only [Act.put, List.setIfInBounds_toArray, List.set_cons_zero, List.set_cons_succ])
    refine wpAnyH_take (i := 10) (oi := { dst := some 20, op := Op.pick (Operand.tmp 15) (Operand.const (Value.bool true)) (Operand.tmp 19), type := 4, pos := "ref.go:188", after := #[{ on := 5, ground := Ground.data }, { on := 9, ground := Ground.data }], guard := none }) (v := ?_) rfl (by kernel_rfl) (by kernel_rfl) (by kernel_rfl) (fun _ _ _ h => h) (Or.inl ⟨by rfl, ?_⟩) (by assumption) ?_
    rotate_left
    · (intro w hSw; (try dsimp only at hSw); go_simp; try with_reducible rfl)
    (try simp only [Act.put, List.setIfInBounds_toArray, List.set_cons_zero, List.set_cons_succ])
    refine wpAnyH_done (by kernel_rfl) ?_ _
    refine NoPanic.normal ?_
    go_wp2_with fail
    refine bodyPost_ret (v := .tuple #[.int .i64 0, .bool false]) (by simp [results, Tryz.results17, go_sem]) rfl ?_
    exact ⟨by rw [HIV.out], hb02.trans (hB5.mono hs2)⟩
  · have hc1 : ∃ C : Int, Lib.compareInt z (-9223372036854775808) = C ∧ 0 ≤ C ∧ C ≤ 1 := ⟨_, rfl, by rw [ci_of, if_neg hlo]; split <;> omega⟩
    obtain ⟨C1, hC1, hC1a, hC1b⟩ := hc1
    have HC1 := Lib.hid (hcc (-9223372036854775808) C1 hC1 hy1)
    clear hC1
    rcases (show C1 = 0 ∨ C1 = 1 by omega) with rfl | rfl
    · clear hC1a hC1b
      by_cases hhi : 9223372036854775807 < z
      · have HC2 := Lib.hid (hcc 9223372036854775807 1 (by rw [ci_of, if_neg (by omega), if_neg (by omega)]) hy2)
        have HIV : Hid (IntV z = .tuple #[.int .i64 0, .bool false]) := Lib.hid (IntV.no (fun h => by have := h.2; omega))
        clear hcc hy1 hy2 hlo hhi hz q0 q1
        go_region_held3 (fun W' => W'.cell? ⟨w.heap.size, 0, none⟩ = some (.int .i64 s1) ∧ W'.cell? ⟨w.heap.size, 1, none⟩ = some (.slice A1 n1 c1) ∧ Below w2.heap.size w2 W')
          (first | exact E2.out _ (by assumption) | exact E2.out _ ⟨rfl, rfl, rfl, Nat.le_refl _, fun _ _ => rfl⟩)
          (first
            | (go_at_call 25; have _h := hB6; refine (HC2.out _ _ _ _ _ hB6 hr6.bv).mono ?_; rintro e w7 ⟨rfl, hb7⟩; have hB7 : Below w2.heap.size w2 w7 := hB6.trans (hb7.mono hB6.size))
            | (go_at_call 32; have _h := hB5; refine (rof_any 9223372036854775807 _ (by omega) (by omega)).mono ?_; rintro e w6 ⟨r6, rfl, hr6, hb6⟩; have hB6 : Below w2.heap.size w2 w6 := hB5.trans (hb6.mono hB5.size); obtain ⟨sr6, Ar6, nr6, cr6, rfl⟩ := hr6.form)
            | (go_at_call 25; refine (HC1.out _ _ _ _ _ hB4 hr4.bv).mono ?_; rintro e w5 ⟨rfl, hb5⟩; have hB5 : Below w2.heap.size w2 w5 := hB4.trans (hb5.mono hB4.size))
            | (go_at_call 32; refine (rof_any (-9223372036854775808) _ (by omega) (by omega)).mono ?_; rintro e w4 ⟨r4, rfl, hr4, hb4⟩; have hB4 : Below w2.heap.size w2 w4 := ⟨hb4.os, hb4.tape, hb4.output, hb4.size, hb4.block⟩; obtain ⟨sr, Ar_, nr, cr, rfl⟩ := hr4.form))
        go_wp2_with fail
        refine bodyPost_ret (v := .tuple #[.int .i64 0, .bool false]) (by simp [results, Tryz.results17, go_sem]) rfl ?_
        exact ⟨by rw [HIV.out], hb02.trans (hB7.mono hs2)⟩
      · have hc2 : ∃ C : Int, Lib.compareInt z 9223372036854775807 = C ∧ -1 ≤ C ∧ C ≤ 0 := ⟨_, rfl, by rw [ci_of]; split <;> (try split) <;> omega⟩
        obtain ⟨C2, hC2, hC2a, hC2b⟩ := hc2
        have HC2 := Lib.hid (hcc 9223372036854775807 C2 hC2 hy2)
        clear hC2
        have HIV : Hid (IntV z = .tuple #[.int .i64 z, .bool true]) := Lib.hid (IntV.yes ⟨by omega, by omega⟩)
        have HZZ := Lib.hid (show -9223372036854775808 ≤ z ∧ z ≤ 9223372036854775807 from ⟨by omega, by omega⟩)
        clear hcc hy1 hy2 hlo hhi hz q0 q1
        go_region_held3 (fun W' => W'.cell? ⟨w.heap.size, 0, none⟩ = some (.int .i64 s1) ∧ W'.cell? ⟨w.heap.size, 1, none⟩ = some (.slice A1 n1 c1) ∧ Below w2.heap.size w2 W')
          (first | exact E2.out _ (by assumption) | exact E2.out _ ⟨rfl, rfl, rfl, Nat.le_refl _, fun _ _ => rfl⟩)
          (first
            | (go_at_call 25; have _h := hB6; refine (HC2.out _ _ _ _ _ hB6 hr6.bv).mono ?_; rintro e w7 ⟨rfl, hb7⟩; have hB7 : Below w2.heap.size w2 w7 := hB6.trans (hb7.mono hB6.size))
            | (go_at_call 32; have _h := hB5; refine (rof_any 9223372036854775807 _ (by omega) (by omega)).mono ?_; rintro e w6 ⟨r6, rfl, hr6, hb6⟩; have hB6 : Below w2.heap.size w2 w6 := hB5.trans (hb6.mono hB5.size); obtain ⟨sr6, Ar6, nr6, cr6, rfl⟩ := hr6.form)
            | (go_at_call 25; refine (HC1.out _ _ _ _ _ hB4 hr4.bv).mono ?_; rintro e w5 ⟨rfl, hb5⟩; have hB5 : Below w2.heap.size w2 w5 := hB4.trans (hb5.mono hB4.size))
            | (go_at_call 32; refine (rof_any (-9223372036854775808) _ (by omega) (by omega)).mono ?_; rintro e w4 ⟨r4, rfl, hr4, hb4⟩; have hB4 : Below w2.heap.size w2 w4 := ⟨hb4.os, hb4.tape, hb4.output, hb4.size, hb4.block⟩; obtain ⟨sr, Ar_, nr, cr, rfl⟩ := hr4.form))
        obtain ⟨q0, q1, _⟩ := E2.out _ hB7
        have hl0 : Hid (∀ N : Int, N = s1 * nv ((D (ab z)).drop 0) → N = z) := Lib.hid fun N hN => by
          rw [hN, List.drop_zero, nv_D (ab_nonneg z), HSG.out]
          unfold sgn ab
          split
          · omega
          · split <;> omega
        go_wp2_with fail
        go_loopw [5, 6] (fun nv' iv wr => ∃ (N : Int) (i : Nat), i ≤ n1 ∧ nv' = .int .i64 N ∧ iv = .int .i64 ((i : Int) - 1) ∧ Hid (N = s1 * nv ((D (ab z)).drop i)) ∧ Below w2.heap.size w2 wr) (fun _ iv _ => (intOf iv + 1).toNat)
        case atStart => exact ⟨0, n1, Nat.le_refl _, rfl, rfl, Lib.hid (by rw [List.drop_eq_nil_of_le (by rw [HLN.out]; exact Nat.le_refl _), nv_nil, Int.mul_zero]), hB7⟩
        case round =>
          obtain ⟨N, i, hi, rfl, rfl, hN, hb⟩ := hrel
          by_cases hgo : 0 < i
          · obtain ⟨j, rfl⟩ : ∃ j, i = j + 1 := ⟨i - 1, by omega⟩
            have hj : ((j + 1 : Nat) : Int) - 1 = (j : Int) := by omega
            rw [hj]
            obtain ⟨c0, c1', _⟩ := E2.out _ hb
            obtain ⟨bb, off, hA, _, cd⟩ := (HI.out.below (hb02.trans (hb.mono hs2))) j (by rw [HLN.out]; omega)
            subst hA
            obtain ⟨d0, d1, b1, b2, b3, b4, b5, b6, hnew⟩ := int_step HSG.out HZZ.out.1 HZZ.out.2 hN.out (show j < (D (ab z)).length by rw [HLN.out]; omega)
            obtain ⟨d, hd⟩ : ∃ d, (D (ab z)).getD j 0 = d := ⟨_, rfl⟩
            rw [hd] at cd d0 d1 b3 b4 b5 b6 hnew
            have HNEW := Lib.hid hnew; clear hnew hd
            have hw1 : IntKind.i64.wrap (N * 1048576) = N * 1048576 := by rw [IntKind.wrap_i64]; omega
            have hw2 : IntKind.i64.wrap (s1 * d) = s1 * d := by rw [IntKind.wrap_i64]; omega
            have hw3 : IntKind.i64.wrap (N * 1048576 + s1 * d) = N * 1048576 + s1 * d := by rw [IntKind.wrap_i64]; omega
            go_wp2_with fail
            go_quiet (fail)
            go_wp2_with fail
            go_roundw
            case rel => exact ⟨_, j, by omega, rfl, rfl, HNEW, below_drN hb _⟩
            case measure => simp [intOf]
          · have : i = 0 := by omega
            subst this
            have hf := hl0.out N hN.out
            have HF := Lib.hid hf; clear hf
            go_wp2_with fail
            refine bodyPost_ret (v := .tuple #[.int .i64 N, .bool true]) (by simp [results, Tryz.results17, go_sem]) rfl ?_
            exact ⟨by rw [HIV.out, HF.out], hb02.trans (hb.mono hs2)⟩
    · clear hC1a hC1b
      by_cases hhi : 9223372036854775807 < z
      · have HC2 := Lib.hid (hcc 9223372036854775807 1 (by rw [ci_of, if_neg (by omega), if_neg (by omega)]) hy2)
        have HIV : Hid (IntV z = .tuple #[.int .i64 0, .bool false]) := Lib.hid (IntV.no (fun h => by have := h.2; omega))
        clear hcc hy1 hy2 hlo hhi hz q0 q1
        go_region_held3 (fun W' => W'.cell? ⟨w.heap.size, 0, none⟩ = some (.int .i64 s1) ∧ W'.cell? ⟨w.heap.size, 1, none⟩ = some (.slice A1 n1 c1) ∧ Below w2.heap.size w2 W')
          (first | exact E2.out _ (by assumption) | exact E2.out _ ⟨rfl, rfl, rfl, Nat.le_refl _, fun _ _ => rfl⟩)
          (first
            | (go_at_call 25; have _h := hB6; refine (HC2.out _ _ _ _ _ hB6 hr6.bv).mono ?_; rintro e w7 ⟨rfl, hb7⟩; have hB7 : Below w2.heap.size w2 w7 := hB6.trans (hb7.mono hB6.size))
            | (go_at_call 32; have _h := hB5; refine (rof_any 9223372036854775807 _ (by omega) (by omega)).mono ?_; rintro e w6 ⟨r6, rfl, hr6, hb6⟩; have hB6 : Below w2.heap.size w2 w6 := hB5.trans (hb6.mono hB5.size); obtain ⟨sr6, Ar6, nr6, cr6, rfl⟩ := hr6.form)
            | (go_at_call 25; refine (HC1.out _ _ _ _ _ hB4 hr4.bv).mono ?_; rintro e w5 ⟨rfl, hb5⟩; have hB5 : Below w2.heap.size w2 w5 := hB4.trans (hb5.mono hB4.size))
            | (go_at_call 32; refine (rof_any (-9223372036854775808) _ (by omega) (by omega)).mono ?_; rintro e w4 ⟨r4, rfl, hr4, hb4⟩; have hB4 : Below w2.heap.size w2 w4 := ⟨hb4.os, hb4.tape, hb4.output, hb4.size, hb4.block⟩; obtain ⟨sr, Ar_, nr, cr, rfl⟩ := hr4.form))
        go_wp2_with fail
        refine bodyPost_ret (v := .tuple #[.int .i64 0, .bool false]) (by simp [results, Tryz.results17, go_sem]) rfl ?_
        exact ⟨by rw [HIV.out], hb02.trans (hB7.mono hs2)⟩
      · have hc2 : ∃ C : Int, Lib.compareInt z 9223372036854775807 = C ∧ -1 ≤ C ∧ C ≤ 0 := ⟨_, rfl, by rw [ci_of]; split <;> (try split) <;> omega⟩
        obtain ⟨C2, hC2, hC2a, hC2b⟩ := hc2
        have HC2 := Lib.hid (hcc 9223372036854775807 C2 hC2 hy2)
        clear hC2
        have HIV : Hid (IntV z = .tuple #[.int .i64 z, .bool true]) := Lib.hid (IntV.yes ⟨by omega, by omega⟩)
        have HZZ := Lib.hid (show -9223372036854775808 ≤ z ∧ z ≤ 9223372036854775807 from ⟨by omega, by omega⟩)
        clear hcc hy1 hy2 hlo hhi hz q0 q1
        go_region_held3 (fun W' => W'.cell? ⟨w.heap.size, 0, none⟩ = some (.int .i64 s1) ∧ W'.cell? ⟨w.heap.size, 1, none⟩ = some (.slice A1 n1 c1) ∧ Below w2.heap.size w2 W')
          (first | exact E2.out _ (by assumption) | exact E2.out _ ⟨rfl, rfl, rfl, Nat.le_refl _, fun _ _ => rfl⟩)
          (first
            | (go_at_call 25; have _h := hB6; refine (HC2.out _ _ _ _ _ hB6 hr6.bv).mono ?_; rintro e w7 ⟨rfl, hb7⟩; have hB7 : Below w2.heap.size w2 w7 := hB6.trans (hb7.mono hB6.size))
            | (go_at_call 32; have _h := hB5; refine (rof_any 9223372036854775807 _ (by omega) (by omega)).mono ?_; rintro e w6 ⟨r6, rfl, hr6, hb6⟩; have hB6 : Below w2.heap.size w2 w6 := hB5.trans (hb6.mono hB5.size); obtain ⟨sr6, Ar6, nr6, cr6, rfl⟩ := hr6.form)
            | (go_at_call 25; refine (HC1.out _ _ _ _ _ hB4 hr4.bv).mono ?_; rintro e w5 ⟨rfl, hb5⟩; have hB5 : Below w2.heap.size w2 w5 := hB4.trans (hb5.mono hB4.size))
            | (go_at_call 32; refine (rof_any (-9223372036854775808) _ (by omega) (by omega)).mono ?_; rintro e w4 ⟨r4, rfl, hr4, hb4⟩; have hB4 : Below w2.heap.size w2 w4 := ⟨hb4.os, hb4.tape, hb4.output, hb4.size, hb4.block⟩; obtain ⟨sr, Ar_, nr, cr, rfl⟩ := hr4.form))
        obtain ⟨q0, q1, _⟩ := E2.out _ hB7
        have hl0 : Hid (∀ N : Int, N = s1 * nv ((D (ab z)).drop 0) → N = z) := Lib.hid fun N hN => by
          rw [hN, List.drop_zero, nv_D (ab_nonneg z), HSG.out]
          unfold sgn ab
          split
          · omega
          · split <;> omega
        go_wp2_with fail
        go_loopw [5, 6] (fun nv' iv wr => ∃ (N : Int) (i : Nat), i ≤ n1 ∧ nv' = .int .i64 N ∧ iv = .int .i64 ((i : Int) - 1) ∧ Hid (N = s1 * nv ((D (ab z)).drop i)) ∧ Below w2.heap.size w2 wr) (fun _ iv _ => (intOf iv + 1).toNat)
        case atStart => exact ⟨0, n1, Nat.le_refl _, rfl, rfl, Lib.hid (by rw [List.drop_eq_nil_of_le (by rw [HLN.out]; exact Nat.le_refl _), nv_nil, Int.mul_zero]), hB7⟩
        case round =>
          obtain ⟨N, i, hi, rfl, rfl, hN, hb⟩ := hrel
          by_cases hgo : 0 < i
          · obtain ⟨j, rfl⟩ : ∃ j, i = j + 1 := ⟨i - 1, by omega⟩
            have hj : ((j + 1 : Nat) : Int) - 1 = (j : Int) := by omega
            rw [hj]
            obtain ⟨c0, c1', _⟩ := E2.out _ hb
            obtain ⟨bb, off, hA, _, cd⟩ := (HI.out.below (hb02.trans (hb.mono hs2))) j (by rw [HLN.out]; omega)
            subst hA
            obtain ⟨d0, d1, b1, b2, b3, b4, b5, b6, hnew⟩ := int_step HSG.out HZZ.out.1 HZZ.out.2 hN.out (show j < (D (ab z)).length by rw [HLN.out]; omega)
            obtain ⟨d, hd⟩ : ∃ d, (D (ab z)).getD j 0 = d := ⟨_, rfl⟩
            rw [hd] at cd d0 d1 b3 b4 b5 b6 hnew
            have HNEW := Lib.hid hnew; clear hnew hd
            have hw1 : IntKind.i64.wrap (N * 1048576) = N * 1048576 := by rw [IntKind.wrap_i64]; omega
            have hw2 : IntKind.i64.wrap (s1 * d) = s1 * d := by rw [IntKind.wrap_i64]; omega
            have hw3 : IntKind.i64.wrap (N * 1048576 + s1 * d) = N * 1048576 + s1 * d := by rw [IntKind.wrap_i64]; omega
            go_wp2_with fail
            go_quiet (fail)
            go_wp2_with fail
            go_roundw
            case rel => exact ⟨_, j, by omega, rfl, rfl, HNEW, below_drN hb _⟩
            case measure => simp [intOf]
          · have : i = 0 := by omega
            subst this
            have hf := hl0.out N hN.out
            have HF := Lib.hid hf; clear hf
            go_wp2_with fail
            refine bodyPost_ret (v := .tuple #[.int .i64 N, .bool true]) (by simp [results, Tryz.results17, go_sem]) rfl ?_
            exact ⟨by rw [HIV.out, HF.out], hb02.trans (hb.mono hs2)⟩

end Go.Proofs.YtkjpfnbdlbnbkaaGreatDoor
