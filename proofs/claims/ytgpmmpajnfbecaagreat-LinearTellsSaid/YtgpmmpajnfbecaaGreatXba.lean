/- Walks: the reference's Div by zero; Div of both where an argument is not right. Printed by a program (rdiv4.py) from Fc and Yb. Walks: the reference's Div, the signs the same or no remainder. Printed by a program (rdivs.py). Walks: the reference's Div, the signs different and a remainder; Div of right arguments. Printed by a program (rdivd.py). -/
import Derived.Test.YtgpmmpajnfbecaaGreatXaz
import Derived.Test.YtgpmmpajnfbecaaGreatXam
import Derived.Deep.RegionHeld3

namespace Go.Proofs.YtgpmmpajnfbecaaGreat
open Go.RowKit

end Go.Proofs.YtgpmmpajnfbecaaGreat

namespace Go.Proofs.YtgpmmpajnfbecaaGreat
open Go.RowKit

set_option maxRecDepth 100000 in
set_option maxHeartbeats 8000000 in
theorem rdiv_same {s1 s2 : Int} {A1 A2 : Option Addr} {n1 c1 n2 c2 : Nat} {x y : Int} (w : World) (h1 : BV w w.heap.size (.agg #[.int .i64 s1, .slice A1 n1 c1]) x) (h2 : BV w w.heap.size (.agg #[.int .i64 s2, .slice A2 n2 c2]) y) (hx : ab x < pw 60) (hy : ab y < pw 60) (hy0 : y ≠ 0) (hc : s1 = s2 ∨ ab x % ab y = 0) :
    Calls Tryz.prog 66 #[.agg #[.int .i64 s1, .slice A1 n1 c1], .agg #[.int .i64 s2, .slice A2 n2 c2]] w (DivP x y w) := by
  have hs1 := (bv_sv h1).2.1
  have hs2 := (bv_sv h2).2.1
  have hl1 : (D (ab x)).length ≤ 60 := (D_len_le (ab_nonneg x)).2 hx
  have hl2 : (D (ab y)).length ≤ 60 := (D_len_le (ab_nonneg y)).2 hy
  have hY : 1 ≤ ab y := by unfold ab; omega
  have hr1 := fun (w' : World) (hbw : Below w.heap.size w w') => rRight_yes (h1.later hbw) hx
  have hr2 := fun (w' : World) (hbw : Below w.heap.size w w') => rRight_yes (h2.later hbw) hy
  have hov := fun (w' : World) (hbw : Below w.heap.size w w') => rover_any (D (ab x)) (D (ab y)) (.slice A1 n1 c1) (.slice A2 n2 c2) w' (bv_sv (h1.later hbw)).1 (bv_sv (h2.later hbw)).1 (Dig_D _) (Dig_D _) (by omega) (by omega) (ab y) (nv_D (ab_nonneg y)) hY
  rw [nv_D (ab_nonneg x)] at hov
  have hq0 := Int.ediv_nonneg (ab_nonneg x) (ab_nonneg y)
  have hm0 := Int.emod_nonneg (ab x) (b := ab y) (by omega)
  have hm1 := Int.emod_lt_of_pos (ab x) (b := ab y) (by omega)
  have hqx : ab x / ab y ≤ ab x := Int.ediv_le_self _ (ab_nonneg x)
  have hqr := (div_same (x := x) (y := y) hy0 (by rw [← hs1, ← hs2]; exact hc)).1
  have hlq : (D (ab x / ab y)).length ≤ 60 := (D_len_le hq0).2 (by omega)
  have hlr : (D (ab x % ab y)).length ≤ 60 := (D_len_le hm0).2 (by omega)
  have hx00 : s1 = 0 → ab x = 0 := by intro h; rw [hs1] at h; unfold sgn at h; unfold ab; split at h <;> (try split at h) <;> omega
  have hq00 : s1 = 0 → ab x / ab y = 0 := fun h => by rw [hx00 h]; exact Int.zero_ediv _
  have hr00 : s1 = 0 → ab x % ab y = 0 := fun h => by rw [hx00 h]; exact Int.zero_emod _
  have hsb1 := sgn_bd x
  have hsb2 := sgn_bd y
  have hs20 : s2 ≠ 0 := by rw [hs2]; unfold sgn; split <;> (try split) <;> omega
  rw [← hs1] at hsb1 hqr
  rw [← hs2] at hsb2 hqr
  have hre : s2 * (ab x % ab y) = s1 * (ab x % ab y) := by
    rcases hc with h | h
    · rw [h]
    · rw [h, Int.mul_zero, Int.mul_zero]
  rw [hre] at hqr
  obtain ⟨Q, hQ⟩ : ∃ z, ab x / ab y = z := ⟨_, rfl⟩
  obtain ⟨R, hR⟩ : ∃ z, ab x % ab y = z := ⟨_, rfl⟩
  rw [hQ] at hov hq0 hqr hlq hq00
  rw [hR] at hov hm0 hqr hlr hc hr00
  have hs3 : s1 = -1 ∨ s1 = 0 ∨ s1 = 1 := by omega
  have hs4 : s2 = -1 ∨ s2 = 1 := by omega
  obtain ⟨P, hP⟩ : ∃ P, s1 * s2 = P := ⟨_, rfl⟩
  have hP3 : (P = 1 ∨ P = -1) ∨ P = 0 := by rw [← hP]; rcases hs3 with h | h | h <;> rcases hs4 with h' | h' <;> rw [h, h'] <;> decide
  have hPs : P = 0 → s1 = 0 := by intro h; rw [← hP] at h; rcases hs3 with g | g | g <;> rcases hs4 with g' | g' <;> rw [g, g'] at h <;> first | exact g | (exfalso; revert h; decide)
  have hPR : 0 ≤ P ∨ (¬ 0 ≤ P ∧ R = 0) := by
    rcases hc with h | h
    · left; rw [← hP, h]; rcases hs4 with g' | g' <;> rw [g'] <;> decide
    · by_cases g : 0 ≤ P
      · exact .inl g
      · exact .inr ⟨g, h⟩
  have hwm : IntKind.i64.wrap (s1 * s2) = P := by rw [hP]; exact IntWalk.i64_in _ (by omega)
  rw [hP] at hqr
  have hmq := fun (v : Value) (w' : World) (hv : Sv w' v (D Q)) => rmade_any (D Q) P (P * Q) v w' hv (Dig_D _) (by omega) (by rw [nv_D hq0]) (by rw [nv_D hq0]; rcases hP3 with (h | h) | h; exact .inl h; exact .inr (.inl h); exact .inr (.inr (hq00 (hPs h))))
  have hmr := fun (v : Value) (w' : World) (hv : Sv w' v (D R)) => rmade_any (D R) s1 (s1 * R) v w' hv (Dig_D _) (by omega) (by rw [nv_D hm0]) (by rw [nv_D hm0]; rcases hs3 with h | h | h; exact .inr (.inl h); exact .inr (.inr (hr00 h)); exact .inl h)
  have hnr0 : R = 0 → (D R).length = 0 := fun h => by rw [h, D_zero]; rfl
  have hsy : (s2 == 0) = false := by simpa using hs20
  have HWM := Lib.hid hwm; clear hwm
  have HR1 := Lib.hid hr1; clear hr1
  have HR2 := Lib.hid hr2; clear hr2
  have HOV := Lib.hid hov; clear hov
  have HMQ := Lib.hid hmq; clear hmq
  have HMR := Lib.hid hmr; clear hmr
  have HQR := Lib.hid hqr; clear hqr
  have HN0 := Lib.hid hnr0; clear hnr0
  have HPR := Lib.hid hPR; clear hPR
  clear h1 h2 hx hy hy0 hc hs1 hs2 hl1 hl2 hY hq0 hm0 hm1 hqx hlq hlr hx00 hq00 hr00 hsb1 hsb2 hs20 hre hQ hR hs3 hs4 hP hP3 hPs
  go_enter Tryz.func66, Tryz.ntmps66
  go_wp2_with fail
  obtain ⟨w1, hw1, hb1, k1, k2, k3, k4, hsz⟩ := boxes4 w #[.int .i64 s1, .slice A1 n1 c1] #[.int .i64 s2, .slice A2 n2 c2] #[.int .i64 0, .slice none 0 0] #[.int .i64 0, .slice none 0 0]
  rw [← hw1]
  clear hw1
  (with_reducible refine (HR1.out w1 hb1).mono ?_)
  rintro e w2 ⟨rfl, hb2⟩
  have k1 := k1.below hb2 k1.lt
  have k2 := k2.below hb2 k2.lt
  have k3 := k3.below hb2 k3.lt
  have k4 := k4.below hb2 k4.lt
  have hb2 := hb1.trans (hb2.mono hb1.size)
  have j1 : w2.cell? ⟨w.heap.size + 1, 0, none⟩ = some (.int .i64 s2) := k2.cell 0
  have j2 : w2.cell? ⟨w.heap.size + 1, 1, none⟩ = some (.slice A2 n2 c2) := k2.cell 1
  go_wp2_with fail
  (with_reducible refine (HR2.out w2 hb2).mono ?_)
  rintro e w3 ⟨rfl, hb3⟩
  clear j1 j2
  have k1 := k1.below hb3 k1.lt
  have k2 := k2.below hb3 k2.lt
  have k3 := k3.below hb3 k3.lt
  have k4 := k4.below hb3 k4.lt
  have hb3 := hb2.trans (hb3.mono hb2.size)
  clear hb1 hb2 HR1 HR2
  obtain ⟨g, hg⟩ : ∃ g, w.heap.size + 1 + 1 = g := ⟨_, rfl⟩
  have hgw : w.heap.size + 1 < g ∧ g + 1 < w3.heap.size := by have := k4.lt; omega
  rw [hg] at k3 k4 ⊢
  clear hg hsz
  have j0 : w3.cell? ⟨w.heap.size, 0, none⟩ = some (.int .i64 s1) := k1.cell 0
  have j1 : w3.cell? ⟨w.heap.size, 1, none⟩ = some (.slice A1 n1 c1) := k1.cell 1
  have j2 : w3.cell? ⟨w.heap.size + 1, 0, none⟩ = some (.int .i64 s2) := k2.cell 0
  have j3 : w3.cell? ⟨w.heap.size + 1, 1, none⟩ = some (.slice A2 n2 c2) := k2.cell 1
  go_wp2_with fail
  (with_reducible refine (HOV.out w3 hb3).mono ?_)
  rintro e w4 ⟨vq, vr, rfl, hoq, hor, hb4⟩
  have hmq := fun w' hb => HMQ.out vq w' (hoq.sv.later' hb)
  have hmr := fun w' hb => HMR.out vr w' (hor.sv.later' hb)
  have HSQ := Lib.hid hmq; clear hmq
  have HSR := Lib.hid hmr; clear hmr
  obtain ⟨Aq, cq, rfl, _, _, _⟩ := hoq.at_
  obtain ⟨Ar, cr, rfl, _, _, _⟩ := hor.at_
  have k1 := k1.below hb4 k1.lt
  have k2 := k2.below hb4 k2.lt
  have k3 := k3.below hb4 (by omega)
  have k4 := k4.below hb4 (by omega)
  clear j0 j1 j2 j3 HOV HMQ HMR hoq hor
  have j0 : w4.cell? ⟨w.heap.size, 0, none⟩ = some (.int .i64 s1) := k1.cell 0
  have j1 : w4.cell? ⟨w.heap.size, 1, none⟩ = some (.slice A1 n1 c1) := k1.cell 1
  have j2 : w4.cell? ⟨w.heap.size + 1, 0, none⟩ = some (.int .i64 s2) := k2.cell 0
  have j3 : w4.cell? ⟨w.heap.size + 1, 1, none⟩ = some (.slice A2 n2 c2) := k2.cell 1
  have hs34 := hb4.size
  have e0 : ∀ W' : World, Below g w4 W' → W'.cell? ⟨w.heap.size, 0, none⟩ = some (.int .i64 s1) ∧ W'.cell? ⟨w.heap.size, 1, none⟩ = some (.slice A1 n1 c1) ∧ W'.cell? ⟨w.heap.size + 1, 0, none⟩ = some (.int .i64 s2) ∧ W'.cell? ⟨w.heap.size + 1, 1, none⟩ = some (.slice A2 n2 c2) ∧ Below g w4 W' := fun W' hW =>
    ⟨(k1.below hW (by omega)).cell 0, (k1.below hW (by omega)).cell 1, (k2.below hW (by omega)).cell 0, (k2.below hW (by omega)).cell 1, hW⟩
  have E0 := Lib.hid e0; clear e0
  have hB00 : Below g w4 w4.drew := (Below.refl _ _).drew
  have hB01 : Below w4.heap.size w4 w4.drew := (Below.refl _ _).drew
  have hgW : g + 1 < w4.heap.size := by omega
  obtain ⟨nq, hnq⟩ : ∃ n, (D Q).length = n := ⟨_, rfl⟩
  obtain ⟨nr, hnr⟩ : ∃ n, (D R).length = n := ⟨_, rfl⟩
  rw [hnq] at HSQ ⊢
  rw [hnr] at HSR HN0 ⊢
  clear hnq hnr
  have hwm := HWM.out
  rcases HPR.out with hp | ⟨hp, hr0⟩
  rotate_left
  · have hn0 := HN0.out hr0
    subst hn0
    have hpd : decide (0 ≤ P) = false := decide_eq_false (by omega)
    clear hr0
    go_upto_region 7 with fail
    clear j0 j1 j2 j3
    go_region_held3 (fun W' => W'.cell? ⟨w.heap.size, 0, none⟩ = some (.int .i64 s1) ∧ W'.cell? ⟨w.heap.size, 1, none⟩ = some (.slice A1 n1 c1) ∧ W'.cell? ⟨w.heap.size + 1, 0, none⟩ = some (.int .i64 s2) ∧ W'.cell? ⟨w.heap.size + 1, 1, none⟩ = some (.slice A2 n2 c2) ∧ Below g w4 W')
      (first | exact E0.out _ (by assumption) | exact E0.out _ ⟨rfl, rfl, rfl, Nat.le_refl _, fun _ _ => rfl⟩)
      (first
        | (go_at_call_of 67 (Value.int .i64 P); (with_reducible refine (HSQ.out _ hB01).mono ?_); rintro e w5 ⟨rq, rfl, hrq, hb5⟩; have hrq4 : BO w5 w4.heap.size rq (P * Q) := hrq; have HRQ := Lib.hid hrq4; obtain ⟨sq', Aq', nq', cq', rfl⟩ := hrq.form; clear hrq hrq4; have hB5 : Below w4.heap.size w4 w5 := ⟨hb5.os, hb5.tape, hb5.output, hb5.size, hb5.block⟩; have hB5g : Below g w4 w5 := hB5.mono (by omega))
        | (go_at_call_of 67 (Value.int .i64 s1); (with_reducible refine (HSR.out _ hB5).mono ?_); rintro e w6 ⟨rr, rfl, hrr, hb6⟩; have HRR := Lib.hid hrr; obtain ⟨sr', Ar', nr', cr', rfl⟩ := hrr.form; clear hrr; have hB6 : Below w4.heap.size w4 w6 := hB5.trans (hb6.mono hB5.size); have hB6g : Below g w4 w6 := hB6.mono (by omega); have hbk := k3.below hB6 (by omega); have hbl := k4.below hB6 (by omega); have q0 : w6.cell? ⟨g, 0, none⟩ = some (.int .i64 0) := hbk.cell 0; have q1 : w6.cell? ⟨g, 1, none⟩ = some (.slice none 0 0) := hbk.cell 1; have f0 := hbk.frozen 0; have f1 := hbk.frozen 1; have q2 : w6.cell? ⟨g + 1, 0, none⟩ = some (.int .i64 0) := hbl.cell 0; have q3 : w6.cell? ⟨g + 1, 1, none⟩ = some (.slice none 0 0) := hbl.cell 1; have f2 := hbl.frozen 0; have f3 := hbl.frozen 1; have hB7 := (hB6g.setCell (p := ⟨g, 0, none⟩) (Nat.le_refl _) (.int .i64 sq')).setCell (p := ⟨g, 1, none⟩) (Nat.le_refl _) (.slice Aq' nq' cq'); have hB8 := (hB7.setCell (p := ⟨g + 1, 0, none⟩) (Nat.le_succ _) (.int .i64 sr')).setCell (p := ⟨g + 1, 1, none⟩) (Nat.le_succ _) (.slice Ar' nr' cr')))
    have hbs := hbk.set2 (.int .i64 sq') (.slice Aq' nq' cq')
    have hbs' := (hbs.far (p := ⟨g + 1, 0, none⟩) (by simp) (.int .i64 sr')).far (p := ⟨g + 1, 1, none⟩) (by simp) (.slice Ar' nr' cr')
    have hbt := ((hbl.far (p := ⟨g, 0, none⟩) (by simp) (.int .i64 sq')).far (p := ⟨g, 1, none⟩) (by simp) (.slice Aq' nq' cq')).set2 (.int .i64 sr') (.slice Ar' nr' cr')
    have hd0 := hbs'.cell 0
    have hd1 := hbs'.cell 1
    have hd2 := hbt.cell 0
    have hd3 := hbt.cell 1
    simp at hd0 hd1 hd2 hd3
    go_wp2_with fail
    refine bodyPost_ret (v := .tuple #[.agg #[.int .i64 sq', .slice Aq' nq' cq'], .agg #[.int .i64 sr', .slice Ar' nr' cr'], .int .i64 0]) (by simp [results, Tryz.results66, go_sem, hd0, hd1, hd2, hd3]) rfl ?_
    have ho1 := ((HRQ.out.below hb6).far2 (g := g) (by omega) (.int .i64 sq') (.slice Aq' nq' cq')).far2 (g := g + 1) (by omega) (.int .i64 sr') (.slice Ar' nr' cr')
    have hs56 := hB5.size
    have ho2 := ((HRR.out.mono hs56).far2 (g := g) (by omega) (.int .i64 sq') (.slice Aq' nq' cq')).far2 (g := g + 1) (by omega) (.int .i64 sr') (.slice Ar' nr' cr')
    have hsz3 := hb3.size
    exact ⟨_, _, _, _, rfl, ho1.mono (by omega), ho2.mono (by omega), HQR.out, (hb3.trans (hb4.mono hsz3)).trans (hB8.mono (by omega))⟩
  · have hpd : decide (0 ≤ P) = true := decide_eq_true hp
    go_upto_region 7 with fail
    clear j0 j1 j2 j3
    go_region_held3 (fun W' => W'.cell? ⟨w.heap.size, 0, none⟩ = some (.int .i64 s1) ∧ W'.cell? ⟨w.heap.size, 1, none⟩ = some (.slice A1 n1 c1) ∧ W'.cell? ⟨w.heap.size + 1, 0, none⟩ = some (.int .i64 s2) ∧ W'.cell? ⟨w.heap.size + 1, 1, none⟩ = some (.slice A2 n2 c2) ∧ Below g w4 W')
      (first | exact E0.out _ (by assumption) | exact E0.out _ ⟨rfl, rfl, rfl, Nat.le_refl _, fun _ _ => rfl⟩)
      (first
        | (go_at_call_of 67 (Value.int .i64 P); (with_reducible refine (HSQ.out _ hB01).mono ?_); rintro e w5 ⟨rq, rfl, hrq, hb5⟩; have hrq4 : BO w5 w4.heap.size rq (P * Q) := hrq; have HRQ := Lib.hid hrq4; obtain ⟨sq', Aq', nq', cq', rfl⟩ := hrq.form; clear hrq hrq4; have hB5 : Below w4.heap.size w4 w5 := ⟨hb5.os, hb5.tape, hb5.output, hb5.size, hb5.block⟩; have hB5g : Below g w4 w5 := hB5.mono (by omega))
        | (go_at_call_of 67 (Value.int .i64 s1); (with_reducible refine (HSR.out _ hB5).mono ?_); rintro e w6 ⟨rr, rfl, hrr, hb6⟩; have HRR := Lib.hid hrr; obtain ⟨sr', Ar', nr', cr', rfl⟩ := hrr.form; clear hrr; have hB6 : Below w4.heap.size w4 w6 := hB5.trans (hb6.mono hB5.size); have hB6g : Below g w4 w6 := hB6.mono (by omega); have hbk := k3.below hB6 (by omega); have hbl := k4.below hB6 (by omega); have q0 : w6.cell? ⟨g, 0, none⟩ = some (.int .i64 0) := hbk.cell 0; have q1 : w6.cell? ⟨g, 1, none⟩ = some (.slice none 0 0) := hbk.cell 1; have f0 := hbk.frozen 0; have f1 := hbk.frozen 1; have q2 : w6.cell? ⟨g + 1, 0, none⟩ = some (.int .i64 0) := hbl.cell 0; have q3 : w6.cell? ⟨g + 1, 1, none⟩ = some (.slice none 0 0) := hbl.cell 1; have f2 := hbl.frozen 0; have f3 := hbl.frozen 1; have hB7 := (hB6g.setCell (p := ⟨g, 0, none⟩) (Nat.le_refl _) (.int .i64 sq')).setCell (p := ⟨g, 1, none⟩) (Nat.le_refl _) (.slice Aq' nq' cq'); have hB8 := (hB7.setCell (p := ⟨g + 1, 0, none⟩) (Nat.le_succ _) (.int .i64 sr')).setCell (p := ⟨g + 1, 1, none⟩) (Nat.le_succ _) (.slice Ar' nr' cr')))
    have hbs := hbk.set2 (.int .i64 sq') (.slice Aq' nq' cq')
    have hbs' := (hbs.far (p := ⟨g + 1, 0, none⟩) (by simp) (.int .i64 sr')).far (p := ⟨g + 1, 1, none⟩) (by simp) (.slice Ar' nr' cr')
    have hbt := ((hbl.far (p := ⟨g, 0, none⟩) (by simp) (.int .i64 sq')).far (p := ⟨g, 1, none⟩) (by simp) (.slice Aq' nq' cq')).set2 (.int .i64 sr') (.slice Ar' nr' cr')
    have hd0 := hbs'.cell 0
    have hd1 := hbs'.cell 1
    have hd2 := hbt.cell 0
    have hd3 := hbt.cell 1
    simp at hd0 hd1 hd2 hd3
    go_wp2_with fail
    refine bodyPost_ret (v := .tuple #[.agg #[.int .i64 sq', .slice Aq' nq' cq'], .agg #[.int .i64 sr', .slice Ar' nr' cr'], .int .i64 0]) (by simp [results, Tryz.results66, go_sem, hd0, hd1, hd2, hd3]) rfl ?_
    have ho1 := ((HRQ.out.below hb6).far2 (g := g) (by omega) (.int .i64 sq') (.slice Aq' nq' cq')).far2 (g := g + 1) (by omega) (.int .i64 sr') (.slice Ar' nr' cr')
    have hs56 := hB5.size
    have ho2 := ((HRR.out.mono hs56).far2 (g := g) (by omega) (.int .i64 sq') (.slice Aq' nq' cq')).far2 (g := g + 1) (by omega) (.int .i64 sr') (.slice Ar' nr' cr')
    have hsz3 := hb3.size
    exact ⟨_, _, _, _, rfl, ho1.mono (by omega), ho2.mono (by omega), HQR.out, (hb3.trans (hb4.mono hsz3)).trans (hB8.mono (by omega))⟩

end Go.Proofs.YtgpmmpajnfbecaaGreat

namespace Go.Proofs.YtgpmmpajnfbecaaGreat
open Go.RowKit

set_option maxRecDepth 100000 in
set_option maxHeartbeats 8000000 in
theorem rdiv_diff {s1 s2 : Int} {A1 A2 : Option Addr} {n1 c1 n2 c2 : Nat} {x y : Int} (w : World) (h1 : BV w w.heap.size (.agg #[.int .i64 s1, .slice A1 n1 c1]) x) (h2 : BV w w.heap.size (.agg #[.int .i64 s2, .slice A2 n2 c2]) y) (hx : ab x < pw 60) (hy : ab y < pw 60) (hy0 : y ≠ 0) (hc : s1 ≠ s2) (hr : 0 < ab x % ab y) :
    Calls Tryz.prog 66 #[.agg #[.int .i64 s1, .slice A1 n1 c1], .agg #[.int .i64 s2, .slice A2 n2 c2]] w (DivP x y w) := by
  have hs1 := (bv_sv h1).2.1
  have hs2 := (bv_sv h2).2.1
  have hl1 : (D (ab x)).length ≤ 60 := (D_len_le (ab_nonneg x)).2 hx
  have hl2 : (D (ab y)).length ≤ 60 := (D_len_le (ab_nonneg y)).2 hy
  have hY : 1 ≤ ab y := by unfold ab; omega
  have hr1 := fun (w' : World) (hbw : Below w.heap.size w w') => rRight_yes (h1.later hbw) hx
  have hr2 := fun (w' : World) (hbw : Below w.heap.size w w') => rRight_yes (h2.later hbw) hy
  have hov := fun (w' : World) (hbw : Below w.heap.size w w') => rover_any (D (ab x)) (D (ab y)) (.slice A1 n1 c1) (.slice A2 n2 c2) w' (bv_sv (h1.later hbw)).1 (bv_sv (h2.later hbw)).1 (Dig_D _) (Dig_D _) (by omega) (by omega) (ab y) (nv_D (ab_nonneg y)) hY
  rw [nv_D (ab_nonneg x)] at hov
  have hq0 := Int.ediv_nonneg (ab_nonneg x) (ab_nonneg y)
  have hm1 := Int.emod_lt_of_pos (ab x) (b := ab y) (by omega)
  have hqx : ab x / ab y ≤ ab x := Int.ediv_le_self _ (ab_nonneg x)
  have hqr := (div_diff (x := x) (y := y) hy0 (by rw [← hs1, ← hs2]; exact hc) hr).1
  have hm0 : 0 ≤ ab x % ab y := by omega
  have hlq : (D (ab x / ab y)).length ≤ 60 := (D_len_le hq0).2 (by omega)
  have hlr : (D (ab x % ab y)).length ≤ 60 := (D_len_le hm0).2 (by omega)
  have hx00 : s1 ≠ 0 := by
    intro h
    have : ab x = 0 := by rw [hs1] at h; unfold sgn at h; unfold ab; split at h <;> (try split at h) <;> omega
    rw [this, Int.zero_emod] at hr
    omega
  have hsb1 := sgn_bd x
  have hsb2 := sgn_bd y
  have hs20 : s2 ≠ 0 := by rw [hs2]; unfold sgn; split <;> (try split) <;> omega
  rw [← hs1] at hsb1
  rw [← hs2] at hsb2 hqr
  have hpl := fun (vq : Value) (w' : World) (v : Value) (hq : Sv w' vq (D (ab x / ab y))) (hv : Sv w' v [1]) => rplus_any (D (ab x / ab y)) [1] vq v w' hq hv (Dig_D _) (dig_one (by decide) (by decide)) (by omega) (by simp)
  rw [nv_D hq0, nv_one] at hpl
  have hmi := fun (vr : Value) (w' : World) (hb : Below w.heap.size w w') (hv : Sv w' vr (D (ab x % ab y))) => rminus_any (D (ab y)) (D (ab x % ab y)) (.slice A2 n2 c2) vr w' (bv_sv (h2.later hb)).1 hv (Dig_D _) (Dig_D _) (by omega) (D_len_mono hm0 (by omega)) (by rw [nv_D hm0, nv_D (ab_nonneg y)]; omega)
  rw [nv_D hm0, nv_D (ab_nonneg y)] at hmi
  have hlq1 : (D (ab x / ab y + 1)).length ≤ 400 := (D_len_le (by omega)).2 (by have := pw_le (show 60 + 1 ≤ 400 by omega); rw [pw_succ] at this; have := pw_pos 60; omega)
  have hlr1 : (D (ab y - ab x % ab y)).length ≤ 400 := by have := D_len_mono (show 0 ≤ ab y - ab x % ab y by omega) (show ab y - ab x % ab y ≤ ab y by omega); omega
  have hmq := fun (v : Value) (w' : World) (hv : Sv w' v (D (ab x / ab y + 1))) => rmade_any (D (ab x / ab y + 1)) (-1) (-(ab x / ab y + 1)) v w' hv (Dig_D _) hlq1 (by rw [nv_D (by omega)]; omega) (.inr (.inl rfl))
  have hmr := fun (v : Value) (w' : World) (hv : Sv w' v (D (ab y - ab x % ab y))) => rmade_any (D (ab y - ab x % ab y)) s2 (s2 * (ab y - ab x % ab y)) v w' hv (Dig_D _) hlr1 (by rw [nv_D (by omega)]) (by omega)
  have hlr0 : 0 < (D (ab x % ab y)).length := D_len_pos hr
  obtain ⟨Q, hQ⟩ : ∃ z, ab x / ab y = z := ⟨_, rfl⟩
  obtain ⟨R, hR⟩ : ∃ z, ab x % ab y = z := ⟨_, rfl⟩
  rw [hQ] at hov hqr hpl hmq
  rw [hR] at hov hqr hmi hmr hlr0
  obtain ⟨Q1, hQ1⟩ : ∃ z, Q + 1 = z := ⟨_, rfl⟩
  obtain ⟨R1, hR1⟩ : ∃ z, ab y - R = z := ⟨_, rfl⟩
  rw [hQ1] at hqr hpl hmq
  rw [hR1] at hqr hmi hmr
  have hs3 : s1 = -1 ∨ s1 = 1 := by omega
  have hs4 : s2 = -1 ∨ s2 = 1 := by omega
  have hP : s1 * s2 = -1 := by rcases hs3 with h | h <;> rcases hs4 with h' | h' <;> rw [h, h'] <;> first | rfl | (exfalso; omega)
  have hwm : IntKind.i64.wrap (s1 * s2) = -1 := by rw [hP]; decide
  have hsy : (s2 == 0) = false := by simpa using hs20
  have HWM := Lib.hid hwm; clear hwm
  have HR1 := Lib.hid hr1; clear hr1
  have HR2 := Lib.hid hr2; clear hr2
  have HOV := Lib.hid hov; clear hov
  have HMQ := Lib.hid hmq; clear hmq
  have HMR := Lib.hid hmr; clear hmr
  have HPL := Lib.hid hpl; clear hpl
  have HMI := Lib.hid hmi; clear hmi
  have HQR := Lib.hid hqr; clear hqr
  clear h1 h2 hx hy hy0 hc hs1 hs2 hl1 hl2 hY hq0 hm0 hm1 hqx hlq hlr hx00 hsb1 hsb2 hs20 hQ1 hR1 hQ hR hs3 hs4 hP hr hlq1 hlr1
  go_enter Tryz.func66, Tryz.ntmps66
  go_wp2_with fail
  obtain ⟨w1, hw1, hb1, k1, k2, k3, k4, hsz⟩ := boxes4 w #[.int .i64 s1, .slice A1 n1 c1] #[.int .i64 s2, .slice A2 n2 c2] #[.int .i64 0, .slice none 0 0] #[.int .i64 0, .slice none 0 0]
  rw [← hw1]
  clear hw1
  (with_reducible refine (HR1.out w1 hb1).mono ?_)
  rintro e w2 ⟨rfl, hb2⟩
  have k1 := k1.below hb2 k1.lt
  have k2 := k2.below hb2 k2.lt
  have k3 := k3.below hb2 k3.lt
  have k4 := k4.below hb2 k4.lt
  have hb2 := hb1.trans (hb2.mono hb1.size)
  have j1 : w2.cell? ⟨w.heap.size + 1, 0, none⟩ = some (.int .i64 s2) := k2.cell 0
  have j2 : w2.cell? ⟨w.heap.size + 1, 1, none⟩ = some (.slice A2 n2 c2) := k2.cell 1
  go_wp2_with fail
  (with_reducible refine (HR2.out w2 hb2).mono ?_)
  rintro e w3 ⟨rfl, hb3⟩
  clear j1 j2
  have k1 := k1.below hb3 k1.lt
  have k2 := k2.below hb3 k2.lt
  have k3 := k3.below hb3 k3.lt
  have k4 := k4.below hb3 k4.lt
  have hb3 := hb2.trans (hb3.mono hb2.size)
  clear hb1 hb2 HR1 HR2
  obtain ⟨g, hg⟩ : ∃ g, w.heap.size + 1 + 1 = g := ⟨_, rfl⟩
  have hgw : w.heap.size + 1 < g ∧ g + 1 < w3.heap.size := by have := k4.lt; omega
  rw [hg] at k3 k4 ⊢
  clear hg hsz
  have j0 : w3.cell? ⟨w.heap.size, 0, none⟩ = some (.int .i64 s1) := k1.cell 0
  have j1 : w3.cell? ⟨w.heap.size, 1, none⟩ = some (.slice A1 n1 c1) := k1.cell 1
  have j2 : w3.cell? ⟨w.heap.size + 1, 0, none⟩ = some (.int .i64 s2) := k2.cell 0
  have j3 : w3.cell? ⟨w.heap.size + 1, 1, none⟩ = some (.slice A2 n2 c2) := k2.cell 1
  go_wp2_with fail
  (with_reducible refine (HOV.out w3 hb3).mono ?_)
  rintro e w4 ⟨vq, vr, rfl, hoq, hor, hb4⟩
  have hpl := fun w' hb v hv => HPL.out vq w' v (hoq.sv.later' hb) hv
  have hmi := fun w' hb hb2 => HMI.out vr w' hb2 (hor.sv.later' hb)
  have HSQ := Lib.hid hpl; clear hpl
  have HSR := Lib.hid hmi; clear hmi
  obtain ⟨Aq, cq, rfl, _, _, _⟩ := hoq.at_
  obtain ⟨Ar, cr, rfl, _, _, _⟩ := hor.at_
  have k1 := k1.below hb4 k1.lt
  have k2 := k2.below hb4 k2.lt
  have k3 := k3.below hb4 (by omega)
  have k4 := k4.below hb4 (by omega)
  clear j0 j1 j2 j3 HOV HPL HMI hoq hor
  have j0 : w4.cell? ⟨w.heap.size, 0, none⟩ = some (.int .i64 s1) := k1.cell 0
  have j1 : w4.cell? ⟨w.heap.size, 1, none⟩ = some (.slice A1 n1 c1) := k1.cell 1
  have j2 : w4.cell? ⟨w.heap.size + 1, 0, none⟩ = some (.int .i64 s2) := k2.cell 0
  have j3 : w4.cell? ⟨w.heap.size + 1, 1, none⟩ = some (.slice A2 n2 c2) := k2.cell 1
  have hs34 := hb4.size
  have e0 : ∀ W' : World, Below g w4 W' → W'.cell? ⟨w.heap.size, 0, none⟩ = some (.int .i64 s1) ∧ W'.cell? ⟨w.heap.size, 1, none⟩ = some (.slice A1 n1 c1) ∧ W'.cell? ⟨w.heap.size + 1, 0, none⟩ = some (.int .i64 s2) ∧ W'.cell? ⟨w.heap.size + 1, 1, none⟩ = some (.slice A2 n2 c2) ∧ Below g w4 W' := fun W' hW =>
    ⟨(k1.below hW (by omega)).cell 0, (k1.below hW (by omega)).cell 1, (k2.below hW (by omega)).cell 0, (k2.below hW (by omega)).cell 1, hW⟩
  have E0 := Lib.hid e0; clear e0
  have hB00 : Below g w4 w4.drew := (Below.refl _ _).drew
  have hB01 : Below w4.heap.size w4 w4.drew := (Below.refl _ _).drew
  have hgW : g + 1 < w4.heap.size := by omega
  have hB02 := ((Below.refl w4.heap.size w4).alloc (Nat.le_refl _) (.cells #[.int .i64 1] 3)).drew
  have hB03 : Below g w4 (w4.alloc (.cells #[.int .i64 1] 3)).drew := hB02.mono (by omega)
  have hlit := (sv_lit1 w4 1).later' (Below.refl _ _).drew
  have HLIT := Lib.hid hlit; clear hlit
  have hb04 := hb3.trans (hb4.mono hb3.size)
  obtain ⟨nq, hnq⟩ : ∃ n, (D Q).length = n := ⟨_, rfl⟩
  obtain ⟨nr, hnr⟩ : ∃ n, (D R).length = n := ⟨_, rfl⟩
  rw [hnq] at HSQ ⊢
  rw [hnr] at HSR hlr0 ⊢
  clear hnq hnr
  have hwm := HWM.out
  go_upto_region 8 with fail
  clear j0 j1 j2 j3
  go_region_held3 (fun W' => W'.cell? ⟨w.heap.size, 0, none⟩ = some (.int .i64 s1) ∧ W'.cell? ⟨w.heap.size, 1, none⟩ = some (.slice A1 n1 c1) ∧ W'.cell? ⟨w.heap.size + 1, 0, none⟩ = some (.int .i64 s2) ∧ W'.cell? ⟨w.heap.size + 1, 1, none⟩ = some (.slice A2 n2 c2) ∧ Below g w4 W')
    (first | exact E0.out _ hB03 | exact E0.out _ (by assumption) | exact E0.out _ ⟨rfl, rfl, rfl, Nat.le_refl _, fun _ _ => rfl⟩)
    (first
      | (go_at_call 87; (with_reducible refine (HSQ.out _ hB02 _ HLIT.out).mono ?_); rintro e w5 ⟨v5, rfl, ho5, hb5⟩; have hB5 : Below w4.heap.size w4 w5 := hB02.trans (hb5.mono hB02.size); have hB5g : Below g w4 w5 := hB5.mono (by omega))
      | (go_at_call 67; (with_reducible refine (HMQ.out _ _ ho5.sv).mono ?_); rintro e w6 ⟨rq, rfl, hrq, hb6⟩; have hrq4 : BO w6 w4.heap.size rq (-Q1) := hrq.mono hB5.size; have HRQ := Lib.hid hrq4; obtain ⟨sq', Aq', nq', cq', rfl⟩ := hrq.form; clear hrq hrq4; have hB6 : Below w4.heap.size w4 w6 := hB5.trans (hb6.mono hB5.size); have hB6g : Below g w4 w6 := hB6.mono (by omega))
      | (go_at_call 88; (with_reducible refine (HSR.out _ hB6 (hb04.trans (hB6.mono hb04.size))).mono ?_); rintro e w7 ⟨v7, rfl, ho7, hb7⟩; have hB7w : Below w4.heap.size w4 w7 := hB6.trans (hb7.mono hB6.size); have hB7g : Below g w4 w7 := hB7w.mono (by omega))
      | (go_at_call_of 67 (Value.int .i64 s2); (with_reducible refine (HMR.out _ _ ho7.sv).mono ?_); rintro e w8 ⟨rr, rfl, hrr, hb8⟩; have hrr4 : BO w8 w4.heap.size rr (s2 * R1) := hrr.mono hB7w.size; have HRR := Lib.hid hrr4; obtain ⟨sr', Ar', nr', cr', rfl⟩ := hrr.form; clear hrr hrr4; have hB8w : Below w4.heap.size w4 w8 := hB7w.trans (hb8.mono hB7w.size); have hB8g : Below g w4 w8 := hB8w.mono (by omega); have hbk := k3.below hB8w (by omega); have hbl := k4.below hB8w (by omega); have q0 : w8.cell? ⟨g, 0, none⟩ = some (.int .i64 0) := hbk.cell 0; have q1 : w8.cell? ⟨g, 1, none⟩ = some (.slice none 0 0) := hbk.cell 1; have f0 := hbk.frozen 0; have f1 := hbk.frozen 1; have q2 : w8.cell? ⟨g + 1, 0, none⟩ = some (.int .i64 0) := hbl.cell 0; have q3 : w8.cell? ⟨g + 1, 1, none⟩ = some (.slice none 0 0) := hbl.cell 1; have f2 := hbl.frozen 0; have f3 := hbl.frozen 1; have hB7 := (hB8g.setCell (p := ⟨g, 0, none⟩) (Nat.le_refl _) (.int .i64 sq')).setCell (p := ⟨g, 1, none⟩) (Nat.le_refl _) (.slice Aq' nq' cq'); have hB8 := (hB7.setCell (p := ⟨g + 1, 0, none⟩) (Nat.le_succ _) (.int .i64 sr')).setCell (p := ⟨g + 1, 1, none⟩) (Nat.le_succ _) (.slice Ar' nr' cr')))
  have hbs := hbk.set2 (.int .i64 sq') (.slice Aq' nq' cq')
  have hbs' := (hbs.far (p := ⟨g + 1, 0, none⟩) (by simp) (.int .i64 sr')).far (p := ⟨g + 1, 1, none⟩) (by simp) (.slice Ar' nr' cr')
  have hbt := ((hbl.far (p := ⟨g, 0, none⟩) (by simp) (.int .i64 sq')).far (p := ⟨g, 1, none⟩) (by simp) (.slice Aq' nq' cq')).set2 (.int .i64 sr') (.slice Ar' nr' cr')
  have hd0 := hbs'.cell 0
  have hd1 := hbs'.cell 1
  have hd2 := hbt.cell 0
  have hd3 := hbt.cell 1
  simp at hd0 hd1 hd2 hd3
  go_wp2_with fail
  refine bodyPost_ret (v := .tuple #[.agg #[.int .i64 sq', .slice Aq' nq' cq'], .agg #[.int .i64 sr', .slice Ar' nr' cr'], .int .i64 0]) (by simp [results, Tryz.results66, go_sem, hd0, hd1, hd2, hd3]) rfl ?_
  have ho1 := ((HRQ.out.below (hb7.trans (hb8.mono hb7.size))).far2 (g := g) (by omega) (.int .i64 sq') (.slice Aq' nq' cq')).far2 (g := g + 1) (by omega) (.int .i64 sr') (.slice Ar' nr' cr')
  have ho2 := (HRR.out.far2 (g := g) (by omega) (.int .i64 sq') (.slice Aq' nq' cq')).far2 (g := g + 1) (by omega) (.int .i64 sr') (.slice Ar' nr' cr')
  have hsz3 := hb3.size
  exact ⟨_, _, _, _, rfl, ho1.mono (by omega), ho2.mono (by omega), HQR.out, (hb3.trans (hb4.mono hsz3)).trans (hB8.mono (by omega))⟩

/-- The reference's Div of two right big integers, the second not 0. -/
theorem rdiv_any {s1 s2 : Int} {A1 A2 : Option Addr} {n1 c1 n2 c2 : Nat} {x y : Int} (w : World) (h1 : BV w w.heap.size (.agg #[.int .i64 s1, .slice A1 n1 c1]) x) (h2 : BV w w.heap.size (.agg #[.int .i64 s2, .slice A2 n2 c2]) y) (hx : ab x < pw 60) (hy : ab y < pw 60) (hy0 : y ≠ 0) :
    Calls Tryz.prog 66 #[.agg #[.int .i64 s1, .slice A1 n1 c1], .agg #[.int .i64 s2, .slice A2 n2 c2]] w (DivP x y w) := by
  by_cases hc : s1 = s2 ∨ ab x % ab y = 0
  · exact rdiv_same w h1 h2 hx hy hy0 hc
  · have hY : 1 ≤ ab y := by unfold ab; omega
    have := Int.emod_nonneg (ab x) (b := ab y) (by omega)
    exact rdiv_diff w h1 h2 hx hy hy0 (by omega) (by omega)

end Go.Proofs.YtgpmmpajnfbecaaGreat
