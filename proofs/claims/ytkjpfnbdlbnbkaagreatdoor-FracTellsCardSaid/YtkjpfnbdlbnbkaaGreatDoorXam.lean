/- Walks: Div. Walks: the law's head. Walks: Add, Sub. -/
import Derived.Test.YtkjpfnbdlbnbkaaGreatDoorXal
import Derived.Test.YtkjpfnbdlbnbkaaGreatDoorXaf
import Derived.Test.YtkjpfnbdlbnbkaaGreatDoorXak

namespace Go.Proofs.YtkjpfnbdlbnbkaaGreatDoor
open Go.RowKit

def DivP (x y : Int) (w : World) (e : Ending) (w' : World) : Prop := ∃ r1 r2 q r, e = .returned (.tuple #[r1, r2, .int .i64 0]) ∧ BO w' w.heap.size r1 q ∧ BO w' w.heap.size r2 r ∧ QR x y q r ∧ Below w.heap.size w w'

set_option maxRecDepth 100000 in
set_option maxHeartbeats 4000000 in
theorem div_any (x y : Int) (vx vy : Value) (w : World) (hx : BV w w.heap.size vx x) (hy : BV w w.heap.size vy y) (hx6 : ab x < pw 60) (hy6 : ab y < pw 60) (hy0 : y ≠ 0) :
    Calls Tryz.prog 14 #[vx, vy] w (DivP x y w) := by
  obtain ⟨A1, c1, rfl, hc1, hm1, hI1⟩ := hx
  obtain ⟨A2, c2, rfl, hc2, hm2, hI2⟩ := hy
  have hl1 := len60 hx6
  have hl2 := len60 hy6
  have hY : 1 ≤ ab y := by unfold ab; omega
  have hr1 := fun (w' : World) (hb : Below w.heap.size w w') => right_any (sgn x) (D (ab x)) A1 c1 w' ((hI1.below hb).more hb.size) (by omega) true (by simp [rightP_of hx6])
  have hr2 := fun (w' : World) (hb : Below w.heap.size w w') => right_any (sgn y) (D (ab y)) A2 c2 w' ((hI2.below hb).more hb.size) (by omega) true (by simp [rightP_of hy6])
  have hdv := fun (w' : World) (hb : Below w.heap.size w w') => divide_any (ab x) (ab y) A1 A2 c1 c2 w' ((hI1.below hb).more hb.size) ((hI2.below hb).more hb.size) (ab_nonneg _) hY (by omega) (by omega)
  have hq0 := Int.ediv_nonneg (ab_nonneg x) (ab_nonneg y)
  have hm0 := Int.emod_nonneg (ab x) (b := ab y) (by omega)
  have hm1' := Int.emod_lt_of_pos (ab x) (b := ab y) (by omega)
  have hqx : ab x / ab y ≤ ab x := Int.ediv_le_self _ (ab_nonneg x)
  have hds := fun h => div_same (x := x) (y := y) hy0 h
  have hdd := fun h => div_diff (x := x) (y := y) hy0 h
  have hcb := fun (A : Option Addr) (c : Nat) (w' : World) (hb : Below w.heap.size w w') (h : IntsAt w'.heap.size w' A (D (ab x % ab y))) => combine_any (D (ab y)) (D (ab x % ab y)) A2 A c2 c 1 (-1) w' ((hI2.below hb).more hb.size) h (Dig_D _) (Dig_D _) (by omega) (by
    have := (D_len_le hm0 (k := 60)).2 (by omega)
    omega) (by omega) (by omega) (by omega) (by omega) (by rw [nv_D (ab_nonneg _), nv_D hm0]; omega)
  rw [nv_D (ab_nonneg _), nv_D hm0] at hcb
  have hsc := fun (A : Option Addr) (c : Nat) (w' : World) (h : IntsAt w'.heap.size w' A (D (ab x / ab y))) => scale_any (D (ab x / ab y)) A c 1 1 w' h (Dig_D _) (by
    have := (D_len_le hq0 (k := 60)).2 (by omega)
    omega) (by omega) (by omega) (by omega) (by omega)
  rw [nv_D hq0] at hsc
  obtain ⟨n1, hn1⟩ : ∃ n, (D (ab x)).length = n := ⟨_, rfl⟩
  obtain ⟨n2, hn2⟩ : ∃ n, (D (ab y)).length = n := ⟨_, rfl⟩
  rw [hn1] at hr1 hdv ⊢
  rw [hn2] at hr2 hdv hcb ⊢
  have hs1 := sgn_bd x
  have hs2 := sgn_bd y
  have hs20 : sgn y ≠ 0 := by rcases sgn_cases y with ⟨a, b, _⟩ | ⟨a, b, _⟩ | ⟨a, b, _⟩ <;> omega
  obtain ⟨s1, hs1e⟩ : ∃ s, sgn x = s := ⟨_, rfl⟩
  obtain ⟨sy, hs2e⟩ : ∃ s, sgn y = s := ⟨_, rfl⟩
  rw [hs1e] at hr1 hds hdd hs1 ⊢
  rw [hs2e] at hr2 hds hdd hs2 hs20 ⊢
  obtain ⟨Q, hQ⟩ : ∃ z, ab x / ab y = z := ⟨_, rfl⟩
  obtain ⟨R, hR⟩ : ∃ z, ab x % ab y = z := ⟨_, rfl⟩
  rw [hQ] at hdv hds hdd hsc hq0
  rw [hR] at hdv hds hdd hcb hm0
  have HR1 := Lib.hid hr1; clear hr1
  have HR2 := Lib.hid hr2; clear hr2
  have HDV := Lib.hid hdv; clear hdv
  have HDS := Lib.hid hds; clear hds
  have HDD := Lib.hid hdd; clear hdd
  have HSC := Lib.hid hsc; clear hsc
  have HCB := Lib.hid hcb; clear hcb
  clear hn1 hn2 hs1e hs2e hI1 hI2 hx6 hy6 hc1 hc2 hQ hR hqx hm1' hY hy0 hl1 hl2
  have hms : -1 ≤ s1 * sy ∧ s1 * sy ≤ 1 := by
    have a : s1 = -1 ∨ s1 = 0 ∨ s1 = 1 := by omega
    rcases a with rfl | rfl | rfl <;> omega
  have hsy : (sy == 0) = false := by simpa using hs20
  by_cases hss : s1 = sy
  · have hss := hss.symm
    subst hss
    obtain ⟨hqr, haq, har, hsq, hsr⟩ := HDS.out (.inl rfl)
    have HQR := Lib.hid hqr; clear hqr
    have HAQ := Lib.hid haq
    have HAR := Lib.hid har
    have HSQ := Lib.hid hsq; clear hsq
    have HSR := Lib.hid hsr; clear hsr
    clear haq har
    go_enter Tryz.func14, Tryz.ntmps14
    go_wp2_with fail
    obtain ⟨w1, hw1, hb1, k1, k2, k3, k4, hsz⟩ := boxes4 w #[.int .i64 sy, .slice A1 n1 c1] #[.int .i64 sy, .slice A2 n2 c2] #[.int .i64 0, .slice none 0 0] #[.int .i64 0, .slice none 0 0]
    rw [← hw1]
    clear hw1
    (with_reducible refine (HR1.out w1 hb1).mono ?_)
    rintro e w2 ⟨rfl, hb2⟩
    have k1 := k1.below hb2 k1.lt
    have k2 := k2.below hb2 k2.lt
    have k3 := k3.below hb2 k3.lt
    have k4 := k4.below hb2 k4.lt
    have hs2' := hb2.size
    have hb2 := hb1.trans (hb2.mono hb1.size)
    have j1 : w2.cell? ⟨w.heap.size + 1, 0, none⟩ = some (.int .i64 sy) := k2.cell 0
    have j2 : w2.cell? ⟨w.heap.size + 1, 1, none⟩ = some (.slice A2 n2 c2) := k2.cell 1
    go_wp2_with fail
    (with_reducible refine (HR2.out w2 hb2).mono ?_)
    rintro e w3 ⟨rfl, hb3⟩
    clear j1 j2
    have k1 := k1.below hb3 k1.lt
    have k2 := k2.below hb3 k2.lt
    have k3 := k3.below hb3 k3.lt
    have k4 := k4.below hb3 k4.lt
    have hs3' := hb3.size
    have hb3 := hb2.trans (hb3.mono hb2.size)
    clear hb1 hb2 HR1 HR2
    obtain ⟨g, hg⟩ : ∃ g, w.heap.size + 1 + 1 = g := ⟨_, rfl⟩
    have hgw : w.heap.size + 1 < g ∧ g + 1 < w3.heap.size := by have := k4.lt; omega
    rw [hg] at k3 k4 ⊢
    clear hg hsz hs2' hs3'
    have j0 : w3.cell? ⟨w.heap.size, 0, none⟩ = some (.int .i64 sy) := k1.cell 0
    have j1 : w3.cell? ⟨w.heap.size, 1, none⟩ = some (.slice A1 n1 c1) := k1.cell 1
    have j2 : w3.cell? ⟨w.heap.size + 1, 0, none⟩ = some (.int .i64 sy) := k2.cell 0
    have j3 : w3.cell? ⟨w.heap.size + 1, 1, none⟩ = some (.slice A2 n2 c2) := k2.cell 1
    go_wp2_with fail
    (with_reducible refine (HDV.out w3 hb3).mono ?_)
    rintro e w4 ⟨vq, vr, rfl, hoq, hor, hb4⟩
    obtain ⟨Aq, cq, rfl, hcq, hmq, hIq⟩ := hoq.at_
    obtain ⟨Ar, cr, rfl, hcr, hmr, hIr⟩ := hor.at_
    have k1 := k1.below hb4 k1.lt
    have k2 := k2.below hb4 k2.lt
    have k3 := k3.below hb4 (by omega)
    have k4 := k4.below hb4 (by omega)
    clear j0 j1 j2 j3
    have j0 : w4.cell? ⟨w.heap.size, 0, none⟩ = some (.int .i64 sy) := k1.cell 0
    have j1 : w4.cell? ⟨w.heap.size, 1, none⟩ = some (.slice A1 n1 c1) := k1.cell 1
    have j2 : w4.cell? ⟨w.heap.size + 1, 0, none⟩ = some (.int .i64 sy) := k2.cell 0
    have j3 : w4.cell? ⟨w.heap.size + 1, 1, none⟩ = some (.slice A2 n2 c2) := k2.cell 1
    have hs34 := hb4.size

    have e0 : ∀ W' : World, Below g w4 W' → W'.cell? ⟨w.heap.size, 0, none⟩ = some (.int .i64 sy) ∧ W'.cell? ⟨w.heap.size, 1, none⟩ = some (.slice A1 n1 c1) ∧ W'.cell? ⟨w.heap.size + 1, 0, none⟩ = some (.int .i64 sy) ∧ W'.cell? ⟨w.heap.size + 1, 1, none⟩ = some (.slice A2 n2 c2) ∧ Below g w4 W' := fun W' hW =>
      ⟨(k1.below hW (by omega)).cell 0, (k1.below hW (by omega)).cell 1, (k2.below hW (by omega)).cell 0, (k2.below hW (by omega)).cell 1, hW⟩
    have E0 := Lib.hid e0; clear e0
    have hwm : IntKind.i64.wrap (sy * sy) = sy * sy := IntWalk.i64_in _ (by omega)
    have hB00 : Below g w4 w4.drew := (Below.refl _ _).drew
    have hB01 : Below w4.heap.size w4 w4.drew := (Below.refl _ _).drew
    have hgW : g + 1 < w4.heap.size := by omega
    obtain ⟨nq, hnq⟩ : ∃ n, (D Q).length = n := ⟨_, rfl⟩
    obtain ⟨nr, hnr⟩ : ∃ n, (D R).length = n := ⟨_, rfl⟩
    have hnumq := fun w' => number_any (sy * sy * Q) (sy * sy) Aq cq w' HSQ.out
    have hnumr := fun w' => number_any (sy * R) sy Ar cr w' HSR.out
    rw [HAQ.out, hnq] at hnumq
    rw [HAR.out, hnr] at hnumr
    rw [hnq, hnr]
    have HNQ := Lib.hid hnumq; clear hnumq
    have HNR := Lib.hid hnumr; clear hnumr
    have HQ1 := Lib.hid hnq; clear hnq
    have HR1' := Lib.hid hnr; clear hnr
    go_wp2_with fail
    clear j0 j1 j2 j3
    go_region_held3 (fun W' => W'.cell? ⟨w.heap.size, 0, none⟩ = some (.int .i64 sy) ∧ W'.cell? ⟨w.heap.size, 1, none⟩ = some (.slice A1 n1 c1) ∧ W'.cell? ⟨w.heap.size + 1, 0, none⟩ = some (.int .i64 sy) ∧ W'.cell? ⟨w.heap.size + 1, 1, none⟩ = some (.slice A2 n2 c2) ∧ Below g w4 W')
      (first | exact E0.out _ (by assumption) | exact E0.out _ ⟨rfl, rfl, rfl, Nat.le_refl _, fun _ _ => rfl⟩)
      (first
        | (go_at_call_of 72 (Value.int .i64 (sy * sy)); (with_reducible refine (HNQ.out _).mono ?_); rintro e w5 ⟨rq, rfl, hrq, hb5⟩; have HRQ := Lib.hid hrq; obtain ⟨sq', Aq', nq', cq', rfl⟩ := hrq.form; clear hrq; have hB5 : Below w4.heap.size w4 w5 := ⟨hb5.os, hb5.tape, hb5.output, hb5.size, hb5.block⟩; have hB5g : Below g w4 w5 := hB5.mono (by omega))
        | (go_at_call_of 72 (Value.int .i64 sy); (with_reducible refine (HNR.out _).mono ?_); rintro e w6 ⟨rr, rfl, hrr, hb6⟩; have HRR := Lib.hid hrr; obtain ⟨sr', Ar', nr', cr', rfl⟩ := hrr.form; clear hrr; have hB6 : Below w4.heap.size w4 w6 := hB5.trans (hb6.mono hB5.size); have hB6g : Below g w4 w6 := hB6.mono (by omega); have hbk := k3.below hB6 (by omega); have hbl := k4.below hB6 (by omega); have q0 : w6.cell? ⟨g, 0, none⟩ = some (.int .i64 0) := hbk.cell 0; have q1 : w6.cell? ⟨g, 1, none⟩ = some (.slice none 0 0) := hbk.cell 1; have f0 := hbk.frozen 0; have f1 := hbk.frozen 1; have q2 : w6.cell? ⟨g + 1, 0, none⟩ = some (.int .i64 0) := hbl.cell 0; have q3 : w6.cell? ⟨g + 1, 1, none⟩ = some (.slice none 0 0) := hbl.cell 1; have f2 := hbl.frozen 0; have f3 := hbl.frozen 1; have hB7 := (hB6g.setCell (p := ⟨g, 0, none⟩) (Nat.le_refl _) (.int .i64 sq')).setCell (p := ⟨g, 1, none⟩) (Nat.le_refl _) (.slice Aq' nq' cq'); have hB8 := (hB7.setCell (p := ⟨g + 1, 0, none⟩) (Nat.le_succ _) (.int .i64 sr')).setCell (p := ⟨g + 1, 1, none⟩) (Nat.le_succ _) (.slice Ar' nr' cr')))
    have hbs := hbk.set2 (.int .i64 sq') (.slice Aq' nq' cq')
    have hbs' := (hbs.far (p := ⟨g + 1, 0, none⟩) (by simp) (.int .i64 sr')).far (p := ⟨g + 1, 1, none⟩) (by simp) (.slice Ar' nr' cr')
    have hbt := ((hbl.far (p := ⟨g, 0, none⟩) (by simp) (.int .i64 sq')).far (p := ⟨g, 1, none⟩) (by simp) (.slice Aq' nq' cq')).set2 (.int .i64 sr') (.slice Ar' nr' cr')
    have hd0 := hbs'.cell 0
    have hd1 := hbs'.cell 1
    have hd2 := hbt.cell 0
    have hd3 := hbt.cell 1
    simp at hd0 hd1 hd2 hd3
    go_wp2_with fail
    refine bodyPost_ret (v := .tuple #[.agg #[.int .i64 sq', .slice Aq' nq' cq'], .agg #[.int .i64 sr', .slice Ar' nr' cr'], .int .i64 0]) (by simp [results, Tryz.results14, go_sem, hd0, hd1, hd2, hd3]) rfl ?_
    have ho1 := ((hoq.below hB6).far2 (g := g) (by omega) (.int .i64 sq') (.slice Aq' nq' cq')).far2 (g := g + 1) (by omega) (.int .i64 sr') (.slice Ar' nr' cr')
    have ho2 := ((hor.below hB6).far2 (g := g) (by omega) (.int .i64 sq') (.slice Aq' nq' cq')).far2 (g := g + 1) (by omega) (.int .i64 sr') (.slice Ar' nr' cr')
    have hsz3 := hb3.size
    exact ⟨_, _, _, _, rfl, HRQ.out.bo (by rw [HAQ.out]; exact ho1.mono hsz3), HRR.out.bo (by rw [HAR.out]; exact ho2.mono hsz3), HQR.out, (hb3.trans (hb4.mono hsz3)).trans (hB8.mono (by omega))⟩

  · have hne : (s1 != sy) = true := by simpa using hss
    by_cases hR0 : R = 0
    · obtain ⟨hqr, haq, har, hsq, hsr⟩ := HDS.out (.inr hR0)
      have hlen : (D R).length ≤ 0 := by rw [hR0, D_zero]; exact Nat.le_refl _
      have HQR := Lib.hid hqr; clear hqr
      have HAQ := Lib.hid haq
      have HAR := Lib.hid har
      have HSQ := Lib.hid hsq; clear hsq
      have HSR := Lib.hid hsr; clear hsr
      clear haq har hR0
      go_enter Tryz.func14, Tryz.ntmps14
      go_wp2_with fail
      obtain ⟨w1, hw1, hb1, k1, k2, k3, k4, hsz⟩ := boxes4 w #[.int .i64 s1, .slice A1 n1 c1] #[.int .i64 sy, .slice A2 n2 c2] #[.int .i64 0, .slice none 0 0] #[.int .i64 0, .slice none 0 0]
      rw [← hw1]
      clear hw1
      (with_reducible refine (HR1.out w1 hb1).mono ?_)
      rintro e w2 ⟨rfl, hb2⟩
      have k1 := k1.below hb2 k1.lt
      have k2 := k2.below hb2 k2.lt
      have k3 := k3.below hb2 k3.lt
      have k4 := k4.below hb2 k4.lt
      have hs2' := hb2.size
      have hb2 := hb1.trans (hb2.mono hb1.size)
      have j1 : w2.cell? ⟨w.heap.size + 1, 0, none⟩ = some (.int .i64 sy) := k2.cell 0
      have j2 : w2.cell? ⟨w.heap.size + 1, 1, none⟩ = some (.slice A2 n2 c2) := k2.cell 1
      go_wp2_with fail
      (with_reducible refine (HR2.out w2 hb2).mono ?_)
      rintro e w3 ⟨rfl, hb3⟩
      clear j1 j2
      have k1 := k1.below hb3 k1.lt
      have k2 := k2.below hb3 k2.lt
      have k3 := k3.below hb3 k3.lt
      have k4 := k4.below hb3 k4.lt
      have hs3' := hb3.size
      have hb3 := hb2.trans (hb3.mono hb2.size)
      clear hb1 hb2 HR1 HR2
      obtain ⟨g, hg⟩ : ∃ g, w.heap.size + 1 + 1 = g := ⟨_, rfl⟩
      have hgw : w.heap.size + 1 < g ∧ g + 1 < w3.heap.size := by have := k4.lt; omega
      rw [hg] at k3 k4 ⊢
      clear hg hsz hs2' hs3'
      have j0 : w3.cell? ⟨w.heap.size, 0, none⟩ = some (.int .i64 s1) := k1.cell 0
      have j1 : w3.cell? ⟨w.heap.size, 1, none⟩ = some (.slice A1 n1 c1) := k1.cell 1
      have j2 : w3.cell? ⟨w.heap.size + 1, 0, none⟩ = some (.int .i64 sy) := k2.cell 0
      have j3 : w3.cell? ⟨w.heap.size + 1, 1, none⟩ = some (.slice A2 n2 c2) := k2.cell 1
      go_wp2_with fail
      (with_reducible refine (HDV.out w3 hb3).mono ?_)
      rintro e w4 ⟨vq, vr, rfl, hoq, hor, hb4⟩
      obtain ⟨Aq, cq, rfl, hcq, hmq, hIq⟩ := hoq.at_
      obtain ⟨Ar, cr, rfl, hcr, hmr, hIr⟩ := hor.at_
      have k1 := k1.below hb4 k1.lt
      have k2 := k2.below hb4 k2.lt
      have k3 := k3.below hb4 (by omega)
      have k4 := k4.below hb4 (by omega)
      clear j0 j1 j2 j3
      have j0 : w4.cell? ⟨w.heap.size, 0, none⟩ = some (.int .i64 s1) := k1.cell 0
      have j1 : w4.cell? ⟨w.heap.size, 1, none⟩ = some (.slice A1 n1 c1) := k1.cell 1
      have j2 : w4.cell? ⟨w.heap.size + 1, 0, none⟩ = some (.int .i64 sy) := k2.cell 0
      have j3 : w4.cell? ⟨w.heap.size + 1, 1, none⟩ = some (.slice A2 n2 c2) := k2.cell 1
      have hs34 := hb4.size

      have e0 : ∀ W' : World, Below g w4 W' → W'.cell? ⟨w.heap.size, 0, none⟩ = some (.int .i64 s1) ∧ W'.cell? ⟨w.heap.size, 1, none⟩ = some (.slice A1 n1 c1) ∧ W'.cell? ⟨w.heap.size + 1, 0, none⟩ = some (.int .i64 sy) ∧ W'.cell? ⟨w.heap.size + 1, 1, none⟩ = some (.slice A2 n2 c2) ∧ Below g w4 W' := fun W' hW =>
        ⟨(k1.below hW (by omega)).cell 0, (k1.below hW (by omega)).cell 1, (k2.below hW (by omega)).cell 0, (k2.below hW (by omega)).cell 1, hW⟩
      have E0 := Lib.hid e0; clear e0
      have hwm : IntKind.i64.wrap (s1 * sy) = s1 * sy := IntWalk.i64_in _ (by omega)
      have hB00 : Below g w4 w4.drew := (Below.refl _ _).drew
      have hB01 : Below w4.heap.size w4 w4.drew := (Below.refl _ _).drew
      have hgW : g + 1 < w4.heap.size := by omega
      obtain ⟨nq, hnq⟩ : ∃ n, (D Q).length = n := ⟨_, rfl⟩
      obtain ⟨nr, hnr⟩ : ∃ n, (D R).length = n := ⟨_, rfl⟩
      have hnumq := fun w' => number_any (s1 * sy * Q) (s1 * sy) Aq cq w' HSQ.out
      have hnumr := fun w' => number_any (sy * R) sy Ar cr w' HSR.out
      rw [HAQ.out, hnq] at hnumq
      rw [HAR.out, hnr] at hnumr
      rw [hnq, hnr]
      rw [hnr] at hlen
      have HNQ := Lib.hid hnumq; clear hnumq
      have HNR := Lib.hid hnumr; clear hnumr
      have HQ1 := Lib.hid hnq; clear hnq
      have HR1' := Lib.hid hnr; clear hnr
      go_wp2_with fail
      clear j0 j1 j2 j3
      go_region_held3 (fun W' => W'.cell? ⟨w.heap.size, 0, none⟩ = some (.int .i64 s1) ∧ W'.cell? ⟨w.heap.size, 1, none⟩ = some (.slice A1 n1 c1) ∧ W'.cell? ⟨w.heap.size + 1, 0, none⟩ = some (.int .i64 sy) ∧ W'.cell? ⟨w.heap.size + 1, 1, none⟩ = some (.slice A2 n2 c2) ∧ Below g w4 W')
        (first | exact E0.out _ (by assumption) | exact E0.out _ ⟨rfl, rfl, rfl, Nat.le_refl _, fun _ _ => rfl⟩)
        (first
          | (go_at_call_of 72 (Value.int .i64 (s1 * sy)); (with_reducible refine (HNQ.out _).mono ?_); rintro e w5 ⟨rq, rfl, hrq, hb5⟩; have HRQ := Lib.hid hrq; obtain ⟨sq', Aq', nq', cq', rfl⟩ := hrq.form; clear hrq; have hB5 : Below w4.heap.size w4 w5 := ⟨hb5.os, hb5.tape, hb5.output, hb5.size, hb5.block⟩; have hB5g : Below g w4 w5 := hB5.mono (by omega))
          | (go_at_call_of 72 (Value.int .i64 sy); (with_reducible refine (HNR.out _).mono ?_); rintro e w6 ⟨rr, rfl, hrr, hb6⟩; have HRR := Lib.hid hrr; obtain ⟨sr', Ar', nr', cr', rfl⟩ := hrr.form; clear hrr; have hB6 : Below w4.heap.size w4 w6 := hB5.trans (hb6.mono hB5.size); have hB6g : Below g w4 w6 := hB6.mono (by omega); have hbk := k3.below hB6 (by omega); have hbl := k4.below hB6 (by omega); have q0 : w6.cell? ⟨g, 0, none⟩ = some (.int .i64 0) := hbk.cell 0; have q1 : w6.cell? ⟨g, 1, none⟩ = some (.slice none 0 0) := hbk.cell 1; have f0 := hbk.frozen 0; have f1 := hbk.frozen 1; have q2 : w6.cell? ⟨g + 1, 0, none⟩ = some (.int .i64 0) := hbl.cell 0; have q3 : w6.cell? ⟨g + 1, 1, none⟩ = some (.slice none 0 0) := hbl.cell 1; have f2 := hbl.frozen 0; have f3 := hbl.frozen 1; have hB7 := (hB6g.setCell (p := ⟨g, 0, none⟩) (Nat.le_refl _) (.int .i64 sq')).setCell (p := ⟨g, 1, none⟩) (Nat.le_refl _) (.slice Aq' nq' cq'); have hB8 := (hB7.setCell (p := ⟨g + 1, 0, none⟩) (Nat.le_succ _) (.int .i64 sr')).setCell (p := ⟨g + 1, 1, none⟩) (Nat.le_succ _) (.slice Ar' nr' cr')))
      have hbs := hbk.set2 (.int .i64 sq') (.slice Aq' nq' cq')
      have hbs' := (hbs.far (p := ⟨g + 1, 0, none⟩) (by simp) (.int .i64 sr')).far (p := ⟨g + 1, 1, none⟩) (by simp) (.slice Ar' nr' cr')
      have hbt := ((hbl.far (p := ⟨g, 0, none⟩) (by simp) (.int .i64 sq')).far (p := ⟨g, 1, none⟩) (by simp) (.slice Aq' nq' cq')).set2 (.int .i64 sr') (.slice Ar' nr' cr')
      have hd0 := hbs'.cell 0
      have hd1 := hbs'.cell 1
      have hd2 := hbt.cell 0
      have hd3 := hbt.cell 1
      simp at hd0 hd1 hd2 hd3
      go_wp2_with fail
      refine bodyPost_ret (v := .tuple #[.agg #[.int .i64 sq', .slice Aq' nq' cq'], .agg #[.int .i64 sr', .slice Ar' nr' cr'], .int .i64 0]) (by simp [results, Tryz.results14, go_sem, hd0, hd1, hd2, hd3]) rfl ?_
      have ho1 := ((hoq.below hB6).far2 (g := g) (by omega) (.int .i64 sq') (.slice Aq' nq' cq')).far2 (g := g + 1) (by omega) (.int .i64 sr') (.slice Ar' nr' cr')
      have ho2 := ((hor.below hB6).far2 (g := g) (by omega) (.int .i64 sq') (.slice Aq' nq' cq')).far2 (g := g + 1) (by omega) (.int .i64 sr') (.slice Ar' nr' cr')
      have hsz3 := hb3.size
      exact ⟨_, _, _, _, rfl, HRQ.out.bo (by rw [HAQ.out]; exact ho1.mono hsz3), HRR.out.bo (by rw [HAR.out]; exact ho2.mono hsz3), HQR.out, (hb3.trans (hb4.mono hsz3)).trans (hB8.mono (by omega))⟩

    · obtain ⟨hqr, haq, har, hsq, hsr⟩ := HDD.out hss (by omega)
      have hlen : 0 < (D R).length := D_len_pos (by omega)
      have HQR := Lib.hid hqr; clear hqr
      have HAQ := Lib.hid haq
      have HAR := Lib.hid har
      have HSQ := Lib.hid hsq; clear hsq
      have HSR := Lib.hid hsr; clear hsr
      clear haq har
      go_enter Tryz.func14, Tryz.ntmps14
      go_wp2_with fail
      obtain ⟨w1, hw1, hb1, k1, k2, k3, k4, hsz⟩ := boxes4 w #[.int .i64 s1, .slice A1 n1 c1] #[.int .i64 sy, .slice A2 n2 c2] #[.int .i64 0, .slice none 0 0] #[.int .i64 0, .slice none 0 0]
      rw [← hw1]
      clear hw1
      (with_reducible refine (HR1.out w1 hb1).mono ?_)
      rintro e w2 ⟨rfl, hb2⟩
      have k1 := k1.below hb2 k1.lt
      have k2 := k2.below hb2 k2.lt
      have k3 := k3.below hb2 k3.lt
      have k4 := k4.below hb2 k4.lt
      have hs2' := hb2.size
      have hb2 := hb1.trans (hb2.mono hb1.size)
      have j1 : w2.cell? ⟨w.heap.size + 1, 0, none⟩ = some (.int .i64 sy) := k2.cell 0
      have j2 : w2.cell? ⟨w.heap.size + 1, 1, none⟩ = some (.slice A2 n2 c2) := k2.cell 1
      go_wp2_with fail
      (with_reducible refine (HR2.out w2 hb2).mono ?_)
      rintro e w3 ⟨rfl, hb3⟩
      clear j1 j2
      have k1 := k1.below hb3 k1.lt
      have k2 := k2.below hb3 k2.lt
      have k3 := k3.below hb3 k3.lt
      have k4 := k4.below hb3 k4.lt
      have hs3' := hb3.size
      have hb3 := hb2.trans (hb3.mono hb2.size)
      clear hb1 hb2 HR1 HR2
      obtain ⟨g, hg⟩ : ∃ g, w.heap.size + 1 + 1 = g := ⟨_, rfl⟩
      have hgw : w.heap.size + 1 < g ∧ g + 1 < w3.heap.size := by have := k4.lt; omega
      rw [hg] at k3 k4 ⊢
      clear hg hsz hs2' hs3'
      have j0 : w3.cell? ⟨w.heap.size, 0, none⟩ = some (.int .i64 s1) := k1.cell 0
      have j1 : w3.cell? ⟨w.heap.size, 1, none⟩ = some (.slice A1 n1 c1) := k1.cell 1
      have j2 : w3.cell? ⟨w.heap.size + 1, 0, none⟩ = some (.int .i64 sy) := k2.cell 0
      have j3 : w3.cell? ⟨w.heap.size + 1, 1, none⟩ = some (.slice A2 n2 c2) := k2.cell 1
      go_wp2_with fail
      (with_reducible refine (HDV.out w3 hb3).mono ?_)
      rintro e w4 ⟨vq, vr, rfl, hoq, hor, hb4⟩
      obtain ⟨Aq, cq, rfl, hcq, hmq, hIq⟩ := hoq.at_
      obtain ⟨Ar, cr, rfl, hcr, hmr, hIr⟩ := hor.at_
      have k1 := k1.below hb4 k1.lt
      have k2 := k2.below hb4 k2.lt
      have k3 := k3.below hb4 (by omega)
      have k4 := k4.below hb4 (by omega)
      clear j0 j1 j2 j3
      have j0 : w4.cell? ⟨w.heap.size, 0, none⟩ = some (.int .i64 s1) := k1.cell 0
      have j1 : w4.cell? ⟨w.heap.size, 1, none⟩ = some (.slice A1 n1 c1) := k1.cell 1
      have j2 : w4.cell? ⟨w.heap.size + 1, 0, none⟩ = some (.int .i64 sy) := k2.cell 0
      have j3 : w4.cell? ⟨w.heap.size + 1, 1, none⟩ = some (.slice A2 n2 c2) := k2.cell 1
      have hs34 := hb4.size

      go_wp2_with fail
      (with_reducible refine (HSC.out Aq cq w4 hIq).mono ?_)
      rintro e w5 ⟨v5, rfl, ho5, hb5⟩
      rw [Int.one_mul] at ho5
      obtain ⟨A5, c5, rfl, hc5, hm5, hI5⟩ := ho5.at_
      have k1 := k1.below hb5 k1.lt
      have k2 := k2.below hb5 k2.lt
      have k3 := k3.below hb5 (by omega)
      have k4 := k4.below hb5 (by omega)
      clear j0 j1 j2 j3
      have j3 : w5.cell? ⟨w.heap.size + 1, 1, none⟩ = some (.slice A2 n2 c2) := k2.cell 1
      have hs45 := hb5.size
      have hb05 : Below w.heap.size w w5 := hb3.trans ((hb4.trans (hb5.mono hs34)).mono hb3.size)
      go_wp2_with fail
      (with_reducible refine (HCB.out Ar cr w5 hb05 ((hIr.below hb5).more hs45)).mono ?_)
      rintro e w6' ⟨v6, rfl, ho6, hb6'⟩
      rw [show 1 * ab y + -1 * R = ab y - R by omega] at ho6
      obtain ⟨A6, c6, rfl, hc6, hm6, hI6⟩ := ho6.at_
      have k1 := k1.below hb6' k1.lt
      have k2 := k2.below hb6' k2.lt
      have k3 := k3.below hb6' (by omega)
      have k4 := k4.below hb6' (by omega)
      clear j3
      have j0 : w6'.cell? ⟨w.heap.size, 0, none⟩ = some (.int .i64 s1) := k1.cell 0
      have j1 : w6'.cell? ⟨w.heap.size, 1, none⟩ = some (.slice A1 n1 c1) := k1.cell 1
      have j2 : w6'.cell? ⟨w.heap.size + 1, 0, none⟩ = some (.int .i64 sy) := k2.cell 0
      have j3 : w6'.cell? ⟨w.heap.size + 1, 1, none⟩ = some (.slice A2 n2 c2) := k2.cell 1
      have hs56 := hb6'.size
      have hb46 : Below w3.heap.size w3 w6' := hb4.trans ((hb5.trans (hb6'.mono hs45)).mono hs34)
      have ho5' := (ho5.below hb6').mono (B' := w3.heap.size) hs34
      have ho6' := ho6.mono (B' := w3.heap.size) (by omega)

      have e0 : ∀ W' : World, Below g w6' W' → W'.cell? ⟨w.heap.size, 0, none⟩ = some (.int .i64 s1) ∧ W'.cell? ⟨w.heap.size, 1, none⟩ = some (.slice A1 n1 c1) ∧ W'.cell? ⟨w.heap.size + 1, 0, none⟩ = some (.int .i64 sy) ∧ W'.cell? ⟨w.heap.size + 1, 1, none⟩ = some (.slice A2 n2 c2) ∧ Below g w6' W' := fun W' hW =>
        ⟨(k1.below hW (by omega)).cell 0, (k1.below hW (by omega)).cell 1, (k2.below hW (by omega)).cell 0, (k2.below hW (by omega)).cell 1, hW⟩
      have E0 := Lib.hid e0; clear e0
      have hwm : IntKind.i64.wrap (s1 * sy) = s1 * sy := IntWalk.i64_in _ (by omega)
      have hB00 : Below g w6' w6'.drew := (Below.refl _ _).drew
      have hB01 : Below w6'.heap.size w6' w6'.drew := (Below.refl _ _).drew
      have hgW : g + 1 < w6'.heap.size := by omega
      obtain ⟨nq, hnq⟩ : ∃ n, (D (Q + 1)).length = n := ⟨_, rfl⟩
      obtain ⟨nr, hnr⟩ : ∃ n, (D (ab y - R)).length = n := ⟨_, rfl⟩
      have hnumq := fun w' => number_any (-(Q + 1)) (s1 * sy) A5 c5 w' (fun _ => HSQ.out)
      have hnumr := fun w' => number_any (sy * (ab y - R)) sy A6 c6 w' (fun _ => HSR.out)
      rw [HAQ.out, hnq] at hnumq
      rw [HAR.out, hnr] at hnumr
      rw [hnq, hnr]
      have HNQ := Lib.hid hnumq; clear hnumq
      have HNR := Lib.hid hnumr; clear hnumr
      have HQ1 := Lib.hid hnq; clear hnq
      have HR1' := Lib.hid hnr; clear hnr
      go_wp2_with fail
      clear j0 j1 j2 j3
      go_region_held3 (fun W' => W'.cell? ⟨w.heap.size, 0, none⟩ = some (.int .i64 s1) ∧ W'.cell? ⟨w.heap.size, 1, none⟩ = some (.slice A1 n1 c1) ∧ W'.cell? ⟨w.heap.size + 1, 0, none⟩ = some (.int .i64 sy) ∧ W'.cell? ⟨w.heap.size + 1, 1, none⟩ = some (.slice A2 n2 c2) ∧ Below g w6' W')
        (first | exact E0.out _ (by assumption) | exact E0.out _ ⟨rfl, rfl, rfl, Nat.le_refl _, fun _ _ => rfl⟩)
        (first
          | (go_at_call_of 72 (Value.int .i64 (s1 * sy)); (with_reducible refine (HNQ.out _).mono ?_); rintro e w5 ⟨rq, rfl, hrq, hb5⟩; have HRQ := Lib.hid hrq; obtain ⟨sq', Aq', nq', cq', rfl⟩ := hrq.form; clear hrq; have hB5 : Below w6'.heap.size w6' w5 := ⟨hb5.os, hb5.tape, hb5.output, hb5.size, hb5.block⟩; have hB5g : Below g w6' w5 := hB5.mono (by omega))
          | (go_at_call_of 72 (Value.int .i64 sy); (with_reducible refine (HNR.out _).mono ?_); rintro e w6 ⟨rr, rfl, hrr, hb6⟩; have HRR := Lib.hid hrr; obtain ⟨sr', Ar', nr', cr', rfl⟩ := hrr.form; clear hrr; have hB6 : Below w6'.heap.size w6' w6 := hB5.trans (hb6.mono hB5.size); have hB6g : Below g w6' w6 := hB6.mono (by omega); have hbk := k3.below hB6 (by omega); have hbl := k4.below hB6 (by omega); have q0 : w6.cell? ⟨g, 0, none⟩ = some (.int .i64 0) := hbk.cell 0; have q1 : w6.cell? ⟨g, 1, none⟩ = some (.slice none 0 0) := hbk.cell 1; have f0 := hbk.frozen 0; have f1 := hbk.frozen 1; have q2 : w6.cell? ⟨g + 1, 0, none⟩ = some (.int .i64 0) := hbl.cell 0; have q3 : w6.cell? ⟨g + 1, 1, none⟩ = some (.slice none 0 0) := hbl.cell 1; have f2 := hbl.frozen 0; have f3 := hbl.frozen 1; have hB7 := (hB6g.setCell (p := ⟨g, 0, none⟩) (Nat.le_refl _) (.int .i64 sq')).setCell (p := ⟨g, 1, none⟩) (Nat.le_refl _) (.slice Aq' nq' cq'); have hB8 := (hB7.setCell (p := ⟨g + 1, 0, none⟩) (Nat.le_succ _) (.int .i64 sr')).setCell (p := ⟨g + 1, 1, none⟩) (Nat.le_succ _) (.slice Ar' nr' cr')))
      have hbs := hbk.set2 (.int .i64 sq') (.slice Aq' nq' cq')
      have hbs' := (hbs.far (p := ⟨g + 1, 0, none⟩) (by simp) (.int .i64 sr')).far (p := ⟨g + 1, 1, none⟩) (by simp) (.slice Ar' nr' cr')
      have hbt := ((hbl.far (p := ⟨g, 0, none⟩) (by simp) (.int .i64 sq')).far (p := ⟨g, 1, none⟩) (by simp) (.slice Aq' nq' cq')).set2 (.int .i64 sr') (.slice Ar' nr' cr')
      have hd0 := hbs'.cell 0
      have hd1 := hbs'.cell 1
      have hd2 := hbt.cell 0
      have hd3 := hbt.cell 1
      simp at hd0 hd1 hd2 hd3
      go_wp2_with fail
      refine bodyPost_ret (v := .tuple #[.agg #[.int .i64 sq', .slice Aq' nq' cq'], .agg #[.int .i64 sr', .slice Ar' nr' cr'], .int .i64 0]) (by simp [results, Tryz.results14, go_sem, hd0, hd1, hd2, hd3]) rfl ?_
      have ho1 := ((ho5'.below hB6).far2 (g := g) (by omega) (.int .i64 sq') (.slice Aq' nq' cq')).far2 (g := g + 1) (by omega) (.int .i64 sr') (.slice Ar' nr' cr')
      have ho2 := ((ho6'.below hB6).far2 (g := g) (by omega) (.int .i64 sq') (.slice Aq' nq' cq')).far2 (g := g + 1) (by omega) (.int .i64 sr') (.slice Ar' nr' cr')
      have hsz3 := hb3.size
      exact ⟨_, _, _, _, rfl, HRQ.out.bo (by rw [HAQ.out]; exact ho1.mono hsz3), HRR.out.bo (by rw [HAR.out]; exact ho2.mono hsz3), HQR.out, (hb3.trans (hb46.mono hsz3)).trans (hB8.mono (by omega))⟩


end Go.Proofs.YtkjpfnbdlbnbkaaGreatDoor

namespace Go.Proofs.YtkjpfnbdlbnbkaaGreatDoor
open Go.RowKit

theorem box1v {w : World} {s : Int} {A : Option Addr} {n c : Nat} {z : Int} (h : BV w w.heap.size (.agg #[.int .i64 s, .slice A n c]) z) : ∃ W, W = w.alloc (.cells #[.int .i64 s, .slice A n c] 24) ∧ Below w.heap.size w W ∧ Bx W w.heap.size s A n c z := by
  have hb : Below w.heap.size w (w.alloc (.cells #[.int .i64 s, .slice A n c] 24)) := (Below.refl _ _).alloc (Nat.le_refl _) _
  exact ⟨_, rfl, hb, Blk.new _ _ _, h.later hb⟩

set_option maxRecDepth 100000 in
set_option maxHeartbeats 8000000 in
theorem small_any (w : World) (ht : TB w) :
    Calls Tryz.prog 5 #[] w fun e w' => e = .returned (.bool true) ∧ Below w.heap.size w w' := by
  have HT := Lib.hid ht; clear ht
  go_enter Tryz.func5, Tryz.ntmps5
  go_wp2_with fail
  (with_reducible refine (of_any _ _ (by omega) (by omega)).mono ?_)
  rintro e u1 ⟨r1, rfl, hr1, hb1⟩
  have hT := hb1
  obtain ⟨s1, A1, n1, c1, rfl⟩ := hr1.form
  go_wp2_with fail
  obtain ⟨Wx, hW, hbx, kx⟩ := box1 hr1
  rw [← hW]
  clear hW
  have hG := hbx.size
  have hT := hT.trans (hbx.mono hT.size)
  (with_reducible refine (of_any _ _ (by omega) (by omega)).mono ?_)
  rintro e u2 ⟨r2, rfl, hr2, hb2⟩
  have hT := hT.trans (hb2.mono hT.size)
  have kx := kx.below hb2
  go_wp2_with fail
  (with_reducible refine (of_any _ _ (by omega) (by omega)).mono ?_)
  rintro e u3 ⟨r3, rfl, hr3, hb3⟩
  have hT := hT.trans (hb3.mono hT.size)
  have kx := kx.below hb3
  go_wp2_with fail
  (with_reducible refine (mul_any _ _ _ _ _ (hr2.bv.later hb3) hr3.bv (lt60 (by decide)) (lt60 (by decide))).mono ?_)
  rintro e u4 ⟨r4, rfl, hr4, hb4⟩
  have hT := hT.trans (hb4.mono hT.size)
  have kx := kx.below hb4
  rw [show fite (-99999999999 * 99999999999) = 0 from if_pos (lt60 (by decide))]
  rw [show fitz (-99999999999 * 99999999999) = -9999999999800000000001 from if_pos (lt60 (by decide))] at hr4
  obtain ⟨s4, A4, n4, c4, rfl⟩ := hr4.form
  go_wp2_with fail
  obtain ⟨Wp, hW, hbx, kp⟩ := box1 hr4
  rw [← hW]
  clear hW
  have hG := hbx.size
  have hT := hT.trans (hbx.mono hT.size)
  have kx := kx.below hbx
  -- div -7 2
  (with_reducible refine (of_any _ _ (by omega) (by omega)).mono ?_)
  rintro e u5 ⟨r5, rfl, hr5, hb5⟩
  have hT := hT.trans (hb5.mono hT.size)
  have kx := kx.below hb5
  have kp := kp.below hb5
  go_wp2_with fail
  (with_reducible refine (of_any _ _ (by omega) (by omega)).mono ?_)
  rintro e u6 ⟨r6, rfl, hr6, hb6⟩
  have hT := hT.trans (hb6.mono hT.size)
  have kx := kx.below hb6
  have kp := kp.below hb6
  go_wp2_with fail
  (with_reducible refine (div_any _ _ _ _ _ (hr5.bv.later hb6) hr6.bv (lt60 (by decide)) (lt60 (by decide)) (by omega)).mono ?_)
  rintro e u7 ⟨r7, r8, q, r, rfl, hr7, hr8, hqr, hb7⟩
  have hT := hT.trans (hb7.mono hT.size)
  have kx := kx.below hb7
  have kp := kp.below hb7
  obtain ⟨rfl, rfl⟩ := qr1 hqr
  clear hqr
  obtain ⟨s7, A7, n7, c7, rfl⟩ := hr7.form
  obtain ⟨s8, A8, n8, c8, rfl⟩ := hr8.form
  go_wp2_with fail
  obtain ⟨Wab, hW, hbx, ka, kb⟩ := box2 hr7 hr8
  rw [← hW]
  clear hW
  have hT := hT.trans (hbx.mono hT.size)
  have kx := kx.below hbx
  have kp := kp.below hbx
  -- div 7 -2
  (with_reducible refine (of_any _ _ (by omega) (by omega)).mono ?_)
  rintro e u9 ⟨r9, rfl, hr9, hb9⟩
  have hT := hT.trans (hb9.mono hT.size)
  have kx := kx.below hb9
  have kp := kp.below hb9
  have ka := ka.below hb9
  have kb := kb.below hb9
  go_wp2_with fail
  (with_reducible refine (of_any _ _ (by omega) (by omega)).mono ?_)
  rintro e u10 ⟨r10, rfl, hr10, hb10⟩
  have hT := hT.trans (hb10.mono hT.size)
  have kx := kx.below hb10
  have kp := kp.below hb10
  have ka := ka.below hb10
  have kb := kb.below hb10
  go_wp2_with fail
  (with_reducible refine (div_any _ _ _ _ _ (hr9.bv.later hb10) hr10.bv (lt60 (by decide)) (lt60 (by decide)) (by omega)).mono ?_)
  rintro e u11 ⟨r11, r12, q, r, rfl, hr11, hr12, hqr, hb11⟩
  have hT := hT.trans (hb11.mono hT.size)
  have kx := kx.below hb11
  have kp := kp.below hb11
  have ka := ka.below hb11
  have kb := kb.below hb11
  obtain ⟨rfl, rfl⟩ := qr2 hqr
  clear hqr
  obtain ⟨s11, A11, n11, c11, rfl⟩ := hr11.form
  obtain ⟨s12, A12, n12, c12, rfl⟩ := hr12.form
  go_wp2_with fail
  obtain ⟨Wcd, hW, hbx, kc, kd⟩ := box2 hr11 hr12
  rw [← hW]
  clear hW
  have hT := hT.trans (hbx.mono hT.size)
  have kx := kx.below hbx
  have kp := kp.below hbx
  have ka := ka.below hbx
  have kb := kb.below hbx
  -- div -7 -2
  (with_reducible refine (of_any _ _ (by omega) (by omega)).mono ?_)
  rintro e u13 ⟨r13, rfl, hr13, hb13⟩
  have hT := hT.trans (hb13.mono hT.size)
  have kx := kx.below hb13
  have kp := kp.below hb13
  have ka := ka.below hb13
  have kb := kb.below hb13
  have kc := kc.below hb13
  have kd := kd.below hb13
  go_wp2_with fail
  (with_reducible refine (of_any _ _ (by omega) (by omega)).mono ?_)
  rintro e u14 ⟨r14, rfl, hr14, hb14⟩
  have hT := hT.trans (hb14.mono hT.size)
  have kx := kx.below hb14
  have kp := kp.below hb14
  have ka := ka.below hb14
  have kb := kb.below hb14
  have kc := kc.below hb14
  have kd := kd.below hb14
  go_wp2_with fail
  (with_reducible refine (div_any _ _ _ _ _ (hr13.bv.later hb14) hr14.bv (lt60 (by decide)) (lt60 (by decide)) (by omega)).mono ?_)
  rintro e u15 ⟨r15, r16, q, r, rfl, hr15, hr16, hqr, hb15⟩
  have hT := hT.trans (hb15.mono hT.size)
  have kx := kx.below hb15
  have kp := kp.below hb15
  have ka := ka.below hb15
  have kb := kb.below hb15
  have kc := kc.below hb15
  have kd := kd.below hb15
  obtain ⟨rfl, rfl⟩ := qr3 hqr
  clear hqr
  obtain ⟨s15, A15, n15, c15, rfl⟩ := hr15.form
  obtain ⟨s16, A16, n16, c16, rfl⟩ := hr16.form
  go_wp2_with fail
  obtain ⟨Wij, hW, hbx, ki, kj⟩ := box2 hr15 hr16
  rw [← hW]
  clear hW
  have hT := hT.trans (hbx.mono hT.size)
  have kx := kx.below hbx
  have kp := kp.below hbx
  have ka := ka.below hbx
  have kb := kb.below hbx
  have kc := kc.below hbx
  have kd := kd.below hbx
  (with_reducible refine (of_any _ _ (by omega) (by omega)).mono ?_)
  rintro e u17 ⟨r17, rfl, hr17, hb17⟩
  have hT := hT.trans (hb17.mono hT.size)
  have kx := kx.below hb17
  have kp := kp.below hb17
  have ka := ka.below hb17
  have kb := kb.below hb17
  have kc := kc.below hb17
  have kd := kd.below hb17
  have ki := ki.below hb17
  have kj := kj.below hb17
  go_wp2_with fail
  (with_reducible refine (of_any _ _ (by omega) (by omega)).mono ?_)
  rintro e u18 ⟨r18, rfl, hr18, hb18⟩
  have hT := hT.trans (hb18.mono hT.size)
  have kx := kx.below hb18
  have kp := kp.below hb18
  have ka := ka.below hb18
  have kb := kb.below hb18
  have kc := kc.below hb18
  have kd := kd.below hb18
  have ki := ki.below hb18
  have kj := kj.below hb18
  go_wp2_with fail
  (with_reducible refine (gcd_any _ _ _ _ _ (hr17.bv.later hb18) hr18.bv (lt60 (by decide)) (lt60 (by decide))).mono ?_)
  rintro e u19 ⟨r19, rfl, hr19, hb19⟩
  have hT := hT.trans (hb19.mono hT.size)
  have kx := kx.below hb19
  have kp := kp.below hb19
  have ka := ka.below hb19
  have kb := kb.below hb19
  have kc := kc.below hb19
  have kd := kd.below hb19
  have ki := ki.below hb19
  have kj := kj.below hb19
  rw [show ((Int.gcd (-12) (18) : Nat) : Int) = 6 from by decide] at hr19
  obtain ⟨s19, A19, n19, c19, rfl⟩ := hr19.form
  go_wp2_with fail
  obtain ⟨Wk, hW, hbx, kk⟩ := box1 hr19
  rw [← hW]
  clear hW
  have hG := hbx.size
  have hT := hT.trans (hbx.mono hT.size)
  have kx := kx.below hbx
  have kp := kp.below hbx
  have ka := ka.below hbx
  have kb := kb.below hbx
  have kc := kc.below hbx
  have kd := kd.below hbx
  have ki := ki.below hbx
  have kj := kj.below hbx
  (with_reducible refine (of_any _ _ (by omega) (by omega)).mono ?_)
  rintro e u20 ⟨r20, rfl, hr20, hb20⟩
  have hT := hT.trans (hb20.mono hT.size)
  have kx := kx.below hb20
  have kp := kp.below hb20
  have ka := ka.below hb20
  have kb := kb.below hb20
  have kc := kc.below hb20
  have kd := kd.below hb20
  have ki := ki.below hb20
  have kj := kj.below hb20
  have kk := kk.below hb20
  go_wp2_with fail
  (with_reducible refine (of_any _ _ (by omega) (by omega)).mono ?_)
  rintro e u21 ⟨r21, rfl, hr21, hb21⟩
  have hT := hT.trans (hb21.mono hT.size)
  have kx := kx.below hb21
  have kp := kp.below hb21
  have ka := ka.below hb21
  have kb := kb.below hb21
  have kc := kc.below hb21
  have kd := kd.below hb21
  have ki := ki.below hb21
  have kj := kj.below hb21
  have kk := kk.below hb21
  go_wp2_with fail
  (with_reducible refine (gcd_any _ _ _ _ _ (hr20.bv.later hb21) hr21.bv (lt60 (by decide)) (lt60 (by decide))).mono ?_)
  rintro e u22 ⟨r22, rfl, hr22, hb22⟩
  have hT := hT.trans (hb22.mono hT.size)
  have kx := kx.below hb22
  have kp := kp.below hb22
  have ka := ka.below hb22
  have kb := kb.below hb22
  have kc := kc.below hb22
  have kd := kd.below hb22
  have ki := ki.below hb22
  have kj := kj.below hb22
  have kk := kk.below hb22
  rw [show ((Int.gcd (0) (-5) : Nat) : Int) = 5 from by decide] at hr22
  obtain ⟨s22, A22, n22, c22, rfl⟩ := hr22.form
  go_wp2_with fail
  obtain ⟨Wm, hW, hbx, km⟩ := box1 hr22
  rw [← hW]
  clear hW
  have hG := hbx.size
  have hT := hT.trans (hbx.mono hT.size)
  have kx := kx.below hbx
  have kp := kp.below hbx
  have ka := ka.below hbx
  have kb := kb.below hbx
  have kc := kc.below hbx
  have kd := kd.below hbx
  have ki := ki.below hbx
  have kj := kj.below hbx
  have kk := kk.below hbx
  (with_reducible refine (read_bad _ _ no007 (by decide)).mono ?_)
  rintro e u23 ⟨r23, rfl, hr23, hb23⟩
  have hT := hT.trans (hb23.mono hT.size)
  have kx := kx.below hb23
  have kp := kp.below hb23
  have ka := ka.below hb23
  have kb := kb.below hb23
  have kc := kc.below hb23
  have kd := kd.below hb23
  have ki := ki.below hb23
  have kj := kj.below hb23
  have kk := kk.below hb23
  have km := km.below hb23
  obtain ⟨s23, A23, n23, c23, rfl⟩ := hr23.form
  go_wp2_with fail
  obtain ⟨Wo, hW, hbx, ko⟩ := box1 hr23
  rw [← hW]
  clear hW
  have hG := hbx.size
  have hT := hT.trans (hbx.mono hT.size)
  have kx := kx.below hbx
  have kp := kp.below hbx
  have ka := ka.below hbx
  have kb := kb.below hbx
  have kc := kc.below hbx
  have kd := kd.below hbx
  have ki := ki.below hbx
  have kj := kj.below hbx
  have kk := kk.below hbx
  have km := km.below hbx
  (with_reducible refine (read_bad _ _ noM0 (by decide)).mono ?_)
  rintro e u24 ⟨r24, rfl, hr24, hb24⟩
  have hT := hT.trans (hb24.mono hT.size)
  have kx := kx.below hb24
  have kp := kp.below hb24
  have ka := ka.below hb24
  have kb := kb.below hb24
  have kc := kc.below hb24
  have kd := kd.below hb24
  have ki := ki.below hb24
  have kj := kj.below hb24
  have kk := kk.below hb24
  have km := km.below hb24
  have ko := ko.below hb24
  obtain ⟨s24, A24, n24, c24, rfl⟩ := hr24.form
  go_wp2_with fail
  obtain ⟨Wq, hW, hbx, kq⟩ := box1 hr24
  rw [← hW]
  clear hW
  have hG := hbx.size
  have hT := hT.trans (hbx.mono hT.size)
  have kx := kx.below hbx
  have kp := kp.below hbx
  have ka := ka.below hbx
  have kb := kb.below hbx
  have kc := kc.below hbx
  have kd := kd.below hbx
  have ki := ki.below hbx
  have kj := kj.below hbx
  have kk := kk.below hbx
  have km := km.below hbx
  have ko := ko.below hbx
  (with_reducible refine (read_bad _ _ noE (by decide)).mono ?_)
  rintro e u25 ⟨r25, rfl, hr25, hb25⟩
  have hT := hT.trans (hb25.mono hT.size)
  have kx := kx.below hb25
  have kp := kp.below hb25
  have ka := ka.below hb25
  have kb := kb.below hb25
  have kc := kc.below hb25
  have kd := kd.below hb25
  have ki := ki.below hb25
  have kj := kj.below hb25
  have kk := kk.below hb25
  have km := km.below hb25
  have ko := ko.below hb25
  have kq := kq.below hb25
  obtain ⟨s25, A25, n25, c25, rfl⟩ := hr25.form
  go_wp2_with fail
  obtain ⟨Wr, hW, hbx, kr⟩ := box1 hr25
  have hsz : Wr.heap.size = u25.heap.size + 1 := by rw [hW]; simp
  rw [← hW]
  clear hW
  have hG := hbx.size
  have hT := hT.trans (hbx.mono hT.size)
  have kx := kx.below hbx
  have kp := kp.below hbx
  have ka := ka.below hbx
  have kb := kb.below hbx
  have kc := kc.below hbx
  have kd := kd.below hbx
  have ki := ki.below hbx
  have kj := kj.below hbx
  have kk := kk.below hbx
  have km := km.below hbx
  have ko := ko.below hbx
  have kq := kq.below hbx
  rw [← hsz]
  have hl := lit_bv (w := Wr) (l := [0, 0, 0, 8]) (z := 9223372036854775808) (n := 4) (by omega) D_two rfl (by omega)
  simp only [List.map_cons, List.map_nil] at hl
  obtain ⟨L, hL⟩ : ∃ L, Wr.alloc (.cells #[.int .i64 0, .int .i64 0, .int .i64 0, .int .i64 8] 3) = L := ⟨_, rfl⟩
  rw [hL] at hl ⊢
  have hbL : Below Wr.heap.size Wr L := by rw [← hL]; exact (Below.refl _ _).alloc (Nat.le_refl _) _
  have hszL : L.heap.size = Wr.heap.size + 1 := by rw [← hL]; simp
  clear hL hsz
  have hT := hT.trans (hbL.mono hT.size)
  have kx := kx.below hbL
  have kp := kp.below hbL
  have ka := ka.below hbL
  have kb := kb.below hbL
  have kc := kc.below hbL
  have kd := kd.below hbL
  have ki := ki.below hbL
  have kj := kj.below hbL
  have kk := kk.below hbL
  have km := km.below hbL
  have ko := ko.below hbL
  have kq := kq.below hbL
  have kr := kr.below hbL
  rw [← hszL]
  clear hszL
  obtain ⟨Wt, hW, hbx, kt⟩ := box1v hl
  rw [← hW]
  clear hW hl
  have hT := hT.trans (hbx.mono hT.size)
  have kx := kx.below hbx
  have kp := kp.below hbx
  have ka := ka.below hbx
  have kb := kb.below hbx
  have kc := kc.below hbx
  have kd := kd.below hbx
  have ki := ki.below hbx
  have kj := kj.below hbx
  have kk := kk.below hbx
  have km := km.below hbx
  have ko := ko.below hbx
  have kq := kq.below hbx
  have kr := kr.below hbx
  (with_reducible refine (int_any 9223372036854775808 _ _ kt.bv (lt60 (by decide))).mono ?_)
  rintro e u30 ⟨rfl, hb30⟩
  have hT := hT.trans (hb30.mono hT.size)
  have kx := kx.below hb30
  have kp := kp.below hb30
  have ka := ka.below hb30
  have kb := kb.below hb30
  have kc := kc.below hb30
  have kd := kd.below hb30
  have ki := ki.below hb30
  have kj := kj.below hb30
  have kk := kk.below hb30
  have km := km.below hb30
  have ko := ko.below hb30
  have kq := kq.below hb30
  have kr := kr.below hb30
  have kt := kt.below hb30
  rw [show IntV 9223372036854775808 = .tuple #[.int .i64 0, .bool false] from IntV.no (by unfold isI; omega)]
  have kt0 := kt.c0
  have kt1 := kt.c1
  go_wp2_with fail
  clear kt0 kt1
  (with_reducible refine (neg_any 9223372036854775808 _ _ kt.bv (lt60 (by decide))).mono ?_)
  rintro e u31 ⟨r31, rfl, hr31, hb31⟩
  have hT := hT.trans (hb31.mono hT.size)
  have kx := kx.below hb31
  have kp := kp.below hb31
  have ka := ka.below hb31
  have kb := kb.below hb31
  have kc := kc.below hb31
  have kd := kd.below hb31
  have ki := ki.below hb31
  have kj := kj.below hb31
  have kk := kk.below hb31
  have km := km.below hb31
  have ko := ko.below hb31
  have kq := kq.below hb31
  have kr := kr.below hb31
  have kt := kt.below hb31
  go_wp2_with fail
  (with_reducible refine (int_any (-9223372036854775808) _ _ hr31.bv (lt60 (by decide))).mono ?_)
  rintro e u32 ⟨rfl, hb32⟩
  have hT := hT.trans (hb32.mono hT.size)
  have kx := kx.below hb32
  have kp := kp.below hb32
  have ka := ka.below hb32
  have kb := kb.below hb32
  have kc := kc.below hb32
  have kd := kd.below hb32
  have ki := ki.below hb32
  have kj := kj.below hb32
  have kk := kk.below hb32
  have km := km.below hb32
  have ko := ko.below hb32
  have kq := kq.below hb32
  have kr := kr.below hb32
  have kt := kt.below hb32
  rw [show IntV (-9223372036854775808) = .tuple #[.int .i64 (-9223372036854775808), .bool true] from IntV.yes (by unfold isI; omega)]
  have kx0 := kx.c0
  have kx1 := kx.c1
  go_wp2_with fail
  clear kx0 kx1
  have hl := lit_bv (w := u32) (l := [1, 1]) (z := 1048577) (n := 2) (by omega) D_x rfl (by omega)
  simp only [List.map_cons, List.map_nil] at hl
  obtain ⟨L2, hL⟩ : ∃ L, u32.alloc (.cells #[.int .i64 1, .int .i64 1] 3) = L := ⟨_, rfl⟩
  rw [hL] at hl ⊢
  have hbL : Below u32.heap.size u32 L2 := by rw [← hL]; exact (Below.refl _ _).alloc (Nat.le_refl _) _
  clear hL
  have hT := hT.trans (hbL.mono hT.size)
  have kx := kx.below hbL
  have kp := kp.below hbL
  have ka := ka.below hbL
  have kb := kb.below hbL
  have kc := kc.below hbL
  have kd := kd.below hbL
  have ki := ki.below hbL
  have kj := kj.below hbL
  have kk := kk.below hbL
  have km := km.below hbL
  have ko := ko.below hbL
  have kq := kq.below hbL
  have kr := kr.below hbL
  have kt := kt.below hbL
  (with_reducible refine (refSame_any 1048577 1048577 _ _ _ kx.bv hl).mono ?_)
  rintro e u33 ⟨rfl, hb33⟩
  have hT := hT.trans (hb33.mono hT.size)
  have kx := kx.below hb33
  have kp := kp.below hb33
  have ka := ka.below hb33
  have kb := kb.below hb33
  have kc := kc.below hb33
  have kd := kd.below hb33
  have ki := ki.below hb33
  have kj := kj.below hb33
  have kk := kk.below hb33
  have km := km.below hb33
  have ko := ko.below hb33
  have kq := kq.below hb33
  have kr := kr.below hb33
  have kt := kt.below hb33
  rw [show decide ((1048577 : Int) = 1048577) = true from rfl]
  clear hl
  have kp0 := kp.c0
  have kp1 := kp.c1
  go_wp2_with fail
  clear kp0 kp1
  (with_reducible refine (text_any (-9999999999800000000001) _ _ kp.bv (lt60 (by decide)) (HT.out.below hT)).mono ?_)
  rintro e u34 ⟨rfl, hb34⟩
  have hT := hT.trans (hb34.mono hT.size)
  have kx := kx.below hb34
  have kp := kp.below hb34
  have ka := ka.below hb34
  have kb := kb.below hb34
  have kc := kc.below hb34
  have kd := kd.below hb34
  have ki := ki.below hb34
  have kj := kj.below hb34
  have kk := kk.below hb34
  have km := km.below hb34
  have ko := ko.below hb34
  have kq := kq.below hb34
  have kr := kr.below hb34
  have kt := kt.below hb34
  rw [theText]
  have ka0 := ka.c0
  have ka1 := ka.c1
  have kb0 := kb.c0
  have kb1 := kb.c1
  go_wp2_with fail
  clear ka0 ka1 kb0 kb1
  (with_reducible refine (pair_yes (-4) (1) _ _ _ ka.bv kb.bv (by unfold isI; omega) (by unfold isI; omega)).mono ?_)
  rintro e u35 ⟨rfl, hb35⟩
  have hT := hT.trans (hb35.mono hT.size)
  have kx := kx.below hb35
  have kp := kp.below hb35
  have ka := ka.below hb35
  have kb := kb.below hb35
  have kc := kc.below hb35
  have kd := kd.below hb35
  have ki := ki.below hb35
  have kj := kj.below hb35
  have kk := kk.below hb35
  have km := km.below hb35
  have ko := ko.below hb35
  have kq := kq.below hb35
  have kr := kr.below hb35
  have kt := kt.below hb35
  have kc0 := kc.c0
  have kc1 := kc.c1
  have kd0 := kd.c0
  have kd1 := kd.c1
  go_wp2_with fail
  clear kc0 kc1 kd0 kd1
  (with_reducible refine (pair_yes (-4) (-1) _ _ _ kc.bv kd.bv (by unfold isI; omega) (by unfold isI; omega)).mono ?_)
  rintro e u36 ⟨rfl, hb36⟩
  have hT := hT.trans (hb36.mono hT.size)
  have kx := kx.below hb36
  have kp := kp.below hb36
  have ka := ka.below hb36
  have kb := kb.below hb36
  have kc := kc.below hb36
  have kd := kd.below hb36
  have ki := ki.below hb36
  have kj := kj.below hb36
  have kk := kk.below hb36
  have km := km.below hb36
  have ko := ko.below hb36
  have kq := kq.below hb36
  have kr := kr.below hb36
  have kt := kt.below hb36
  have ki0 := ki.c0
  have ki1 := ki.c1
  have kj0 := kj.c0
  have kj1 := kj.c1
  go_wp2_with fail
  clear ki0 ki1 kj0 kj1
  (with_reducible refine (pair_yes (3) (-1) _ _ _ ki.bv kj.bv (by unfold isI; omega) (by unfold isI; omega)).mono ?_)
  rintro e u37 ⟨rfl, hb37⟩
  have hT := hT.trans (hb37.mono hT.size)
  have kx := kx.below hb37
  have kp := kp.below hb37
  have ka := ka.below hb37
  have kb := kb.below hb37
  have kc := kc.below hb37
  have kd := kd.below hb37
  have ki := ki.below hb37
  have kj := kj.below hb37
  have kk := kk.below hb37
  have km := km.below hb37
  have ko := ko.below hb37
  have kq := kq.below hb37
  have kr := kr.below hb37
  have kt := kt.below hb37
  clear kx kp ka kb kc kd ki kj ko kq kr kt
  have kk0 := kk.c0
  have kk1 := kk.c1
  have km0 := km.c0
  have km1 := km.c1
  obtain ⟨gk, hgk⟩ : ∃ g, u19.heap.size = g := ⟨_, rfl⟩
  obtain ⟨gm, hgm⟩ : ∃ g, u22.heap.size = g := ⟨_, rfl⟩
  rw [hgk] at kk kk0 kk1 ⊢
  rw [hgm] at km km0 km1 ⊢
  clear hgk hgm
  have e0 : ∀ W' : World, Below u37.heap.size u37 W' → W'.cell? ⟨gk, 0, none⟩ = some (.int .i64 s19) ∧ W'.cell? ⟨gk, 1, none⟩ = some (.slice A19 n19 c19) ∧ W'.cell? ⟨gm, 0, none⟩ = some (.int .i64 s22) ∧ W'.cell? ⟨gm, 1, none⟩ = some (.slice A22 n22 c22) ∧ Below u37.heap.size u37 W' := fun W' hW =>
    ⟨(kk.below hW).c0, (kk.below hW).c1, (km.below hW).c0, (km.below hW).c1, hW⟩
  have E0 := Lib.hid e0; clear e0
  have hss6 := fun (w' : World) (hb : Below u37.heap.size u37 w') r (h : BV w' w'.heap.size r 6) => same_any 6 6 _ r w' (kk.below hb).bv h
  have hss5 := fun (w' : World) (hb : Below u37.heap.size u37 w') r (h : BV w' w'.heap.size r 5) => same_any 5 5 _ r w' (km.below hb).bv h
  rw [show decide ((6 : Int) = 6) = true from rfl] at hss6
  rw [show decide ((5 : Int) = 5) = true from rfl] at hss5
  have HS6 := Lib.hid hss6; clear hss6
  have HS5 := Lib.hid hss5; clear hss5
  have hB00 : Below u37.heap.size u37 u37.drew := (Below.refl _ _).drew
  clear kk km
  have hTs := hT.size
  go_wp2_with fail
  go_region_held3 (fun W' => W'.cell? ⟨gk, 0, none⟩ = some (.int .i64 s19) ∧ W'.cell? ⟨gk, 1, none⟩ = some (.slice A19 n19 c19) ∧ W'.cell? ⟨gm, 0, none⟩ = some (.int .i64 s22) ∧ W'.cell? ⟨gm, 1, none⟩ = some (.slice A22 n22 c22) ∧ Below u37.heap.size u37 W')
    (first | exact E0.out _ (by assumption) | exact E0.out _ ⟨rfl, rfl, rfl, Nat.le_refl _, fun _ _ => rfl⟩)
    (first
      | (go_at_call 31; have _h := hB5; refine (of_any 5 _ (by omega) (by omega)).mono ?_; rintro e w6 ⟨r2, rfl, hq2, hb6⟩; have hB6 : Below u37.heap.size u37 w6 := hB5.trans (hb6.mono hB5.size))
      | (go_at_call 31; refine (of_any 6 _ (by omega) (by omega)).mono ?_; rintro e w4 ⟨r1, rfl, hq1, hb4⟩; have hB4 : Below u37.heap.size u37 w4 := ⟨hb4.os, hb4.tape, hb4.output, hb4.size, hb4.block⟩)
      | (go_at_call 26; have _h := hB6; refine (HS5.out _ hB6 _ hq2.bv).mono ?_; rintro e w7 ⟨rfl, hb7⟩; have hB7 : Below u37.heap.size u37 w7 := hB6.trans (hb7.mono hB6.size))
      | (go_at_call 26; refine (HS6.out _ hB4 _ hq1.bv).mono ?_; rintro e w5 ⟨rfl, hb5⟩; have hB5 : Below u37.heap.size u37 w5 := hB4.trans (hb5.mono hB4.size)))
  go_wp2_with fail
  go_ret
  exact ⟨rfl, hT.trans (hB7.mono hTs)⟩

end Go.Proofs.YtkjpfnbdlbnbkaaGreatDoor

namespace Go.Proofs.YtkjpfnbdlbnbkaaGreatDoor
open Go.RowKit

set_option maxRecDepth 100000 in
set_option maxHeartbeats 1000000 in
theorem add_any (x y : Int) (vx vy : Value) (w : World) (hx : BV w w.heap.size vx x) (hy : BV w w.heap.size vy y) (hx6 : ab x < pw 60) (hy6 : ab y < pw 60) :
    Calls Tryz.prog 7 #[vx, vy] w (ResP (x + y) w) := by
  have hsum := fun (w' : World) (hb : Below w.heap.size w w') => sum_any x y y vx vy w' ((hx.below hb).more hb.size) ((hy.below hb).more hb.size) hx6 hy6 rfl
  obtain ⟨A1, c1, rfl, -, -, -⟩ := hx
  obtain ⟨A2, c2, rfl, -, -, -⟩ := hy
  obtain ⟨n1, hn1⟩ : ∃ n, (D (ab x)).length = n := ⟨_, rfl⟩
  obtain ⟨n2, hn2⟩ : ∃ n, (D (ab y)).length = n := ⟨_, rfl⟩
  have hs2 := sgn_bd y
  rw [hn1, hn2] at hsum
  rw [hn1, hn2]
  obtain ⟨s1, hs1e⟩ : ∃ s, sgn x = s := ⟨_, rfl⟩
  obtain ⟨s2, hs2e⟩ : ∃ s, sgn y = s := ⟨_, rfl⟩
  rw [hs1e, hs2e] at hsum
  rw [hs2e] at hs2
  rw [hs1e, hs2e]
  have HS := Lib.hid hsum; clear hsum hn1 hn2 hs1e hs2e
  go_enter Tryz.func7, Tryz.ntmps7
  go_wp2_with fail
  obtain ⟨w1, hw1, hb1, k1, k2, k3, hsz⟩ := boxes3 w #[.int .i64 s1, .slice A1 n1 c1] #[.int .i64 s2, .slice A2 n2 c2] #[.int .i64 0, .slice none 0 0]
  rw [← hw1]
  clear hw1
  (with_reducible refine (HS.out w1 hb1).mono ?_)
  rintro e w2 ⟨r, rfl, hr, hb2⟩
  have HR := Lib.hid hr
  obtain ⟨s', A', n', c', rfl⟩ := hr.form
  clear hr
  obtain ⟨g, hg⟩ : ∃ g, w.heap.size + 1 + 1 = g := ⟨_, rfl⟩
  rw [hg] at k3 ⊢
  have hgw : w.heap.size ≤ g ∧ g < w1.heap.size := by have := k3.lt; omega
  clear hg
  have hbk := k3.below hb2 hgw.2
  have q0 : w2.cell? ⟨g, 0, none⟩ = some (.int .i64 0) := hbk.cell 0
  have q1 : w2.cell? ⟨g, 1, none⟩ = some (.slice none 0 0) := hbk.cell 1
  have f0 := hbk.frozen 0
  have f1 := hbk.frozen 1
  have hb02 := hb1.trans (hb2.mono hb1.size)
  have hB6 := (hb02.setCell (p := ⟨g, 0, none⟩) hgw.1 (.int .i64 s')).setCell (p := ⟨g, 1, none⟩) hgw.1 (.slice A' n' c')
  have hbs := hbk.set2 (.int .i64 s') (.slice A' n' c')
  have hd0 := hbs.cell 0
  have hd1 := hbs.cell 1
  simp at hd0 hd1
  go_wp2_with fail
  refine bodyPost_ret (v := .tuple #[.agg #[.int .i64 s', .slice A' n' c'], .int .i64 (fite (x + y))]) (by simp [results, Tryz.results7, go_sem, hd0, hd1]) rfl ?_
  exact ⟨_, rfl, (HR.out.far2 (g := g) hgw.2 (.int .i64 s') (.slice A' n' c')).mono hb1.size, hB6⟩

set_option maxRecDepth 100000 in
set_option maxHeartbeats 1000000 in
theorem sub_any (x y : Int) (vx vy : Value) (w : World) (hx : BV w w.heap.size vx x) (hy : BV w w.heap.size vy y) (hx6 : ab x < pw 60) (hy6 : ab y < pw 60) :
    Calls Tryz.prog 9 #[vx, vy] w (ResP (x - y) w) := by
  have hsum := fun (w' : World) (hb : Below w.heap.size w w') => sum_any x y (-y) vx vy w' ((hx.below hb).more hb.size) ((hy.below hb).more hb.size) hx6 hy6 (ab_neg y).symm
  rw [sgn_neg, ← Int.sub_eq_add_neg] at hsum
  obtain ⟨A1, c1, rfl, -, -, -⟩ := hx
  obtain ⟨A2, c2, rfl, -, -, -⟩ := hy
  obtain ⟨n1, hn1⟩ : ∃ n, (D (ab x)).length = n := ⟨_, rfl⟩
  obtain ⟨n2, hn2⟩ : ∃ n, (D (ab y)).length = n := ⟨_, rfl⟩
  have hs2 := sgn_bd y
  rw [hn1, hn2] at hsum
  rw [hn1, hn2]
  obtain ⟨s1, hs1e⟩ : ∃ s, sgn x = s := ⟨_, rfl⟩
  obtain ⟨s2, hs2e⟩ : ∃ s, sgn y = s := ⟨_, rfl⟩
  rw [hs1e, hs2e] at hsum
  rw [hs2e] at hs2
  rw [hs1e, hs2e]
  have HS := Lib.hid hsum; clear hsum hn1 hn2 hs1e hs2e
  go_enter Tryz.func9, Tryz.ntmps9
  go_wp2_with fail
  obtain ⟨w1, hw1, hb1, k1, k2, k3, hsz⟩ := boxes3 w #[.int .i64 s1, .slice A1 n1 c1] #[.int .i64 s2, .slice A2 n2 c2] #[.int .i64 0, .slice none 0 0]
  rw [← hw1]
  clear hw1
  (with_reducible refine (HS.out w1 hb1).mono ?_)
  rintro e w2 ⟨r, rfl, hr, hb2⟩
  have HR := Lib.hid hr
  obtain ⟨s', A', n', c', rfl⟩ := hr.form
  clear hr
  obtain ⟨g, hg⟩ : ∃ g, w.heap.size + 1 + 1 = g := ⟨_, rfl⟩
  rw [hg] at k3 ⊢
  have hgw : w.heap.size ≤ g ∧ g < w1.heap.size := by have := k3.lt; omega
  clear hg
  have hbk := k3.below hb2 hgw.2
  have q0 : w2.cell? ⟨g, 0, none⟩ = some (.int .i64 0) := hbk.cell 0
  have q1 : w2.cell? ⟨g, 1, none⟩ = some (.slice none 0 0) := hbk.cell 1
  have f0 := hbk.frozen 0
  have f1 := hbk.frozen 1
  have hb02 := hb1.trans (hb2.mono hb1.size)
  have hB6 := (hb02.setCell (p := ⟨g, 0, none⟩) hgw.1 (.int .i64 s')).setCell (p := ⟨g, 1, none⟩) hgw.1 (.slice A' n' c')
  have hbs := hbk.set2 (.int .i64 s') (.slice A' n' c')
  have hd0 := hbs.cell 0
  have hd1 := hbs.cell 1
  simp at hd0 hd1
  go_wp2_with fail
  refine bodyPost_ret (v := .tuple #[.agg #[.int .i64 s', .slice A' n' c'], .int .i64 (fite (x - y))]) (by simp [results, Tryz.results9, go_sem, hd0, hd1]) rfl ?_
  exact ⟨_, rfl, (HR.out.far2 (g := g) hgw.2 (.int .i64 s') (.slice A' n' c')).mono hb1.size, hB6⟩

end Go.Proofs.YtkjpfnbdlbnbkaaGreatDoor
