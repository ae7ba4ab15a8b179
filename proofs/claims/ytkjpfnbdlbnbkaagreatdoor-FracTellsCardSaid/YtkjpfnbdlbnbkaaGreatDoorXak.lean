/- Walks: sum, Add, Sub. Walks: Compare, Same (the program's and the reference's), few. Walks: the law's helper: a quotient and a remainder are two ints. -/
import Derived.Test.YtkjpfnbdlbnbkaaGreatDoorXah
import Derived.Test.YtkjpfnbdlbnbkaaGreatDoorXaj

namespace Go.Proofs.YtkjpfnbdlbnbkaaGreatDoor
open Go.RowKit

theorem sgn_cases (z : Int) : (z < 0 ∧ sgn z = -1 ∧ ab z = -z) ∨ (z = 0 ∧ sgn z = 0 ∧ ab z = 0) ∨ (0 < z ∧ sgn z = 1 ∧ ab z = z) := by
  unfold sgn ab
  rcases Int.lt_trichotomy z 0 with h | h | h
  · exact .inl ⟨h, if_pos h, by omega⟩
  · subst h; exact .inr (.inl ⟨rfl, rfl, rfl⟩)
  · exact .inr (.inr ⟨h, by rw [if_neg (by omega), if_neg (by omega)], by omega⟩)

theorem sum_opp_lt {x t : Int} (h : sgn x * sgn t < 0) (hl : ab x < ab t) : 1 * ab t + -1 * ab x = ab (x + t) ∧ sgn t = sgn (x + t) := by
  rcases sgn_cases x with ⟨a1, a2, a3⟩ | ⟨a1, a2, a3⟩ | ⟨a1, a2, a3⟩ <;> rcases sgn_cases t with ⟨b1, b2, b3⟩ | ⟨b1, b2, b3⟩ | ⟨b1, b2, b3⟩ <;> rcases sgn_cases (x + t) with ⟨c1, c2, c3⟩ | ⟨c1, c2, c3⟩ | ⟨c1, c2, c3⟩ <;> (rw [a2, b2] at h; rw [a3, b3] at hl; rw [a3, b2, b3, c2, c3]; omega)
theorem sum_else {x t : Int} (hx : x ≠ 0) (h : 0 ≤ sgn x * sgn t ∨ ¬ ab x < ab t) : 1 * ab x + sgn x * sgn t * ab t = ab (x + t) ∧ (x + t ≠ 0 → sgn x = sgn (x + t)) := by
  rcases sgn_cases x with ⟨a1, a2, a3⟩ | ⟨a1, a2, a3⟩ | ⟨a1, a2, a3⟩ <;> rcases sgn_cases t with ⟨b1, b2, b3⟩ | ⟨b1, b2, b3⟩ | ⟨b1, b2, b3⟩ <;> rcases sgn_cases (x + t) with ⟨c1, c2, c3⟩ | ⟨c1, c2, c3⟩ | ⟨c1, c2, c3⟩ <;> (rw [a2, b2, a3, b3] at h; rw [a2, a3, b2, b3, c2, c3]; omega)

theorem compare_neg {a b : Int} (h : a < b) : Lib.compareInt a b = -1 := by unfold Lib.compareInt; rw [if_pos h]
theorem compare_nn {a b : Int} (h : ¬ a < b) : 0 ≤ Lib.compareInt a b := by unfold Lib.compareInt; rw [if_neg h]; split <;> omega

set_option maxRecDepth 100000 in
set_option maxHeartbeats 2000000 in
theorem sum_any (x y t : Int) (vx vy : Value) (w : World) (hx : BV w w.heap.size vx x) (hy : BV w w.heap.size vy y) (hx6 : ab x < pw 60) (hy6 : ab y < pw 60) (hyt : ab y = ab t) :
    Calls Tryz.prog 60 #[vx, vy, .int .i64 (sgn t)] w (ResP (x + t) w) := by
  obtain ⟨A1, c1, rfl, hc1, hm1, hI1⟩ := hx
  obtain ⟨A2, c2, rfl, hc2, hm2, hI2⟩ := hy
  have hl1 := len60 hx6
  have hl2 := len60 hy6
  have hr1 := fun (w' : World) (hb : Below w.heap.size w w') => right_any (sgn x) (D (ab x)) A1 c1 w' ((hI1.below hb).more hb.size) (by omega) true (by simp [rightP_of hx6])
  have hr2 := fun (w' : World) (hb : Below w.heap.size w w') => right_any (sgn y) (D (ab y)) A2 c2 w' ((hI2.below hb).more hb.size) (by omega) true (by simp [rightP_of hy6])
  have hclo := fun (w' : World) (hb : Below w.heap.size w w') => clone_any (D (ab y)) A2 c2 w' ((hI2.below hb).more hb.size) (by omega)
  have hor := fun (w' : World) (hb : Below w.heap.size w w') => order_any (ab x) (ab y) A1 A2 c1 c2 w' w'.heap.size ((hI1.below hb).more hb.size) ((hI2.below hb).more hb.size) (ab_nonneg _) (ab_nonneg _) (by omega) (by omega)
  have hcb1 := fun (p q : Int) (w' : World) (hb : Below w.heap.size w w') => combine_any (D (ab x)) (D (ab y)) A1 A2 c1 c2 p q w' ((hI1.below hb).more hb.size) ((hI2.below hb).more hb.size) (Dig_D _) (Dig_D _) (by omega) (by omega)
  have hcb2 := fun (p q : Int) (w' : World) (hb : Below w.heap.size w w') => combine_any (D (ab y)) (D (ab x)) A2 A1 c2 c1 p q w' ((hI2.below hb).more hb.size) ((hI1.below hb).more hb.size) (Dig_D _) (Dig_D _) (by omega) (by omega)
  rw [nv_D (ab_nonneg _), nv_D (ab_nonneg _)] at hcb1 hcb2
  obtain ⟨n1, hn1⟩ : ∃ n, (D (ab x)).length = n := ⟨_, rfl⟩
  obtain ⟨n2, hn2⟩ : ∃ n, (D (ab y)).length = n := ⟨_, rfl⟩
  rw [hn1] at hr1 hor hcb1 hcb2 hl1 ⊢
  rw [hn2] at hr2 hclo hor hcb1 hcb2 hl2 ⊢
  rw [hyt] at hclo hor hcb1 hcb2 hn2
  have HN2 := Lib.hid hn2; clear hn2
  have hsy := sgn_bd y
  have hsx := sgn_bd x
  have hst := sgn_bd t
  obtain ⟨sy, hsye⟩ : ∃ s, sgn y = s := ⟨_, rfl⟩
  rw [hsye] at hr2 hsy ⊢
  have HR1 := Lib.hid hr1; clear hr1
  have HR2 := Lib.hid hr2; clear hr2
  have HCLO := Lib.hid hclo; clear hclo
  have HOR := Lib.hid hor; clear hor
  have HCB1 := Lib.hid hcb1; clear hcb1
  have HCB2 := Lib.hid hcb2; clear hcb2
  have hat := ab_nonneg t
  have hax := ab_nonneg x
  clear hn1 hsye hI1 hI2 hx6 hy6 hc1 hc2 hyt
  have hms : -1 ≤ sgn x * sgn t ∧ sgn x * sgn t ≤ 1 := by
    rcases sgn_cases x with ⟨_, a, _⟩ | ⟨_, a, _⟩ | ⟨_, a, _⟩ <;> rw [a] <;> omega
  have front : ∀ (sx st : Int) (z : Int), -1 ≤ sx → sx ≤ 1 → -1 ≤ st → st ≤ 1 → sx = sgn x → st = sgn t → z = x + t →
      Calls Tryz.prog 60 #[.agg #[.int .i64 sx, .slice A1 n1 c1], .agg #[.int .i64 sy, .slice A2 n2 c2], .int .i64 st] w (ResP z w) := by
    intro sx st z hx1 hx2 ht1 ht2 hsxe hste hz
    have HSX := Lib.hid hsxe
    have HST := Lib.hid hste
    have HZ := Lib.hid hz
    clear hz
    rw [← hsxe, ← hste] at hms
    rw [← hsxe] at HR1
    clear hsxe hste hsx hst
    by_cases hx0 : sx = 0
    · have hx00 : x = 0 := by have := HSX.out; rcases sgn_cases x with ⟨_, a, _⟩ | ⟨h, a, _⟩ | ⟨_, a, _⟩ <;> omega
      have hzt : z = t := by rw [HZ.out, hx00]; omega
      have hft := fun A c w' => fitting_any z st A c w' (fun _ => by rw [hzt]; exact HST.out)
      rw [hzt] at hft ⊢
      have HFT := Lib.hid hft; clear hft hzt hx00
      subst hx0
      go_enter Tryz.func60, Tryz.ntmps60
      go_wp2_with fail
      obtain ⟨w1, hw1, hb1, k1, k2, k3, hsz⟩ := boxes3 w #[.int .i64 0, .slice A1 n1 c1] #[.int .i64 sy, .slice A2 n2 c2] #[.int .i64 0, .slice none 0 0]
      rw [← hw1]
      clear hw1
      refine (HR1.out w1 hb1).mono ?_
      rintro e w2 ⟨rfl, hb2⟩
      have k1 := k1.below hb2 k1.lt
      have k2 := k2.below hb2 k2.lt
      have k3 := k3.below hb2 k3.lt
      have hs2' := hb2.size
      have hb2 := hb1.trans (hb2.mono hb1.size)
      have j1 : w2.cell? ⟨w.heap.size + 1, 0, none⟩ = some (.int .i64 sy) := k2.cell 0
      have j2 : w2.cell? ⟨w.heap.size + 1, 1, none⟩ = some (.slice A2 n2 c2) := k2.cell 1
      go_wp2_with fail
      refine (HR2.out w2 hb2).mono ?_
      rintro e w3 ⟨rfl, hb3⟩
      clear j1 j2
      have k1 := k1.below hb3 k1.lt
      have k2 := k2.below hb3 k2.lt
      have k3 := k3.below hb3 k3.lt
      have hs3' := hb3.size
      have hb3 := hb2.trans (hb3.mono hb2.size)
      clear hb1 hb2 HR1 HR2
      obtain ⟨g, hg⟩ : ∃ g, w.heap.size + 1 + 1 = g := ⟨_, rfl⟩
      have hgw : w.heap.size + 1 < g ∧ g < w3.heap.size := by have := k3.lt; omega
      rw [hg] at k3 ⊢
      clear hg hsz hs2' hs3'
      have j0 : w3.cell? ⟨w.heap.size, 0, none⟩ = some (.int .i64 0) := k1.cell 0
      have j1 : w3.cell? ⟨w.heap.size, 1, none⟩ = some (.slice A1 n1 c1) := k1.cell 1
      have j2 : w3.cell? ⟨w.heap.size + 1, 0, none⟩ = some (.int .i64 sy) := k2.cell 0
      have j3 : w3.cell? ⟨w.heap.size + 1, 1, none⟩ = some (.slice A2 n2 c2) := k2.cell 1
      go_wp2_with fail
      (with_reducible refine (HCLO.out w3 hb3).mono ?_)
      rintro e w4 ⟨v4, rfl, hown4, hb4⟩
      obtain ⟨A4, c4, rfl, hc4, hm4, hI4⟩ := hown4.at_
      go_wp2_with fail
      (with_reducible refine (HFT.out _ _ _).mono ?_)
      rintro e w5 ⟨r, rfl, hr, hb5⟩
      have HR := Lib.hid hr
      obtain ⟨s', A', n', c', rfl⟩ := hr.form
      clear hr
      have hB5 : Below w3.heap.size w3 w5 := hb4.trans (hb5.mono hb4.size)
      have hbk := k3.below hB5 (by omega)
      have q0 : w5.cell? ⟨g, 0, none⟩ = some (.int .i64 0) := hbk.cell 0
      have q1 : w5.cell? ⟨g, 1, none⟩ = some (.slice none 0 0) := hbk.cell 1
      have f0 := hbk.frozen 0
      have f1 := hbk.frozen 1
      have hB6 := ((hB5.mono (B' := g) (by omega)).setCell (p := ⟨g, 0, none⟩) (Nat.le_refl _) (.int .i64 s')).setCell (p := ⟨g, 1, none⟩) (Nat.le_refl _) (.slice A' n' c')
      have hbs := hbk.set2 (.int .i64 s') (.slice A' n' c')
      have hd0 := hbs.cell 0
      have hd1 := hbs.cell 1
      simp at hd0 hd1
      go_wp2_with fail
      refine bodyPost_ret (v := .tuple #[.agg #[.int .i64 s', .slice A' n' c'], .int .i64 (fite t)]) (by simp [results, Tryz.results60, go_sem, hd0, hd1]) rfl ?_
      have hof := (hown4.below hb5).far2 (g := g) (by first | omega | (simp; omega)) (.int .i64 s') (.slice A' n' c')
      exact ⟨_, rfl, HR.out.fito (hof.mono (by have := hb3.size; first | omega | (simp; omega))), hb3.trans (hB6.mono (by omega))⟩
    · have hx00 : x ≠ 0 := by have := HSX.out; rcases sgn_cases x with ⟨_, a, _⟩ | ⟨h, a, _⟩ | ⟨_, a, _⟩ <;> omega
      have hsx0 : (sx == 0) = false := by simpa using hx0
      by_cases hp : sx * st < 0 ∧ ab x < ab t
      · have hlt := hp.2
        have hp := hp.1
        have ⟨hv, hsg⟩ := sum_opp_lt (x := x) (t := t) (by rw [← HSX.out, ← HST.out]; exact hp) hlt
        have hcb := fun (w' : World) (hb : Below w.heap.size w w') => HCB2.out 1 (-1) w' hb (by omega) (by omega) (by omega) (by omega) (by rw [hv]; exact ab_nonneg _)
        have hft := fun A c w' => fitting_any z st A c w' (fun _ => by rw [HZ.out, ← hsg]; exact HST.out)
        rw [hv, ← HZ.out] at hcb
        have HCB := Lib.hid hcb; clear hcb hv hsg
        have HFT := Lib.hid hft; clear hft
        have hcmp := compare_neg hlt
        have hor := fun (w' : World) (hb : Below w.heap.size w w') => HOR.out w' hb
        rw [hcmp] at hor
        have HO := Lib.hid hor; clear hor hcmp HOR
        go_enter Tryz.func60, Tryz.ntmps60
        go_wp2_with fail
        obtain ⟨w1, hw1, hb1, k1, k2, k3, hsz⟩ := boxes3 w #[.int .i64 sx, .slice A1 n1 c1] #[.int .i64 sy, .slice A2 n2 c2] #[.int .i64 0, .slice none 0 0]
        rw [← hw1]
        clear hw1
        refine (HR1.out w1 hb1).mono ?_
        rintro e w2 ⟨rfl, hb2⟩
        have k1 := k1.below hb2 k1.lt
        have k2 := k2.below hb2 k2.lt
        have k3 := k3.below hb2 k3.lt
        have hs2' := hb2.size
        have hb2 := hb1.trans (hb2.mono hb1.size)
        have j1 : w2.cell? ⟨w.heap.size + 1, 0, none⟩ = some (.int .i64 sy) := k2.cell 0
        have j2 : w2.cell? ⟨w.heap.size + 1, 1, none⟩ = some (.slice A2 n2 c2) := k2.cell 1
        go_wp2_with fail
        refine (HR2.out w2 hb2).mono ?_
        rintro e w3 ⟨rfl, hb3⟩
        clear j1 j2
        have k1 := k1.below hb3 k1.lt
        have k2 := k2.below hb3 k2.lt
        have k3 := k3.below hb3 k3.lt
        have hs3' := hb3.size
        have hb3 := hb2.trans (hb3.mono hb2.size)
        clear hb1 hb2 HR1 HR2
        obtain ⟨g, hg⟩ : ∃ g, w.heap.size + 1 + 1 = g := ⟨_, rfl⟩
        have hgw : w.heap.size + 1 < g ∧ g < w3.heap.size := by have := k3.lt; omega
        rw [hg] at k3 ⊢
        clear hg hsz hs2' hs3'
        have j0 : w3.cell? ⟨w.heap.size, 0, none⟩ = some (.int .i64 sx) := k1.cell 0
        have j1 : w3.cell? ⟨w.heap.size, 1, none⟩ = some (.slice A1 n1 c1) := k1.cell 1
        have j2 : w3.cell? ⟨w.heap.size + 1, 0, none⟩ = some (.int .i64 sy) := k2.cell 0
        have j3 : w3.cell? ⟨w.heap.size + 1, 1, none⟩ = some (.slice A2 n2 c2) := k2.cell 1
        go_wp2_with fail
        (with_reducible refine (HO.out w3 hb3).mono ?_)
        rintro e w3' ⟨rfl, q, rfl⟩
        go_wp2_with fail
        (with_reducible refine (HCB.out _ (below_drewN hb3 _)).mono ?_)
        rintro e w4 ⟨v4, rfl, hown4, hb4⟩
        have hB4 : Below w3.heap.size w3 w4 := ⟨hb4.os, hb4.tape, hb4.output, hb4.size, hb4.block⟩
        obtain ⟨A4, c4, rfl, hc4, hm4, hI4⟩ := hown4.at_
        go_wp2_with fail
        (with_reducible refine (HFT.out _ _ _).mono ?_)
        rintro e w5 ⟨r, rfl, hr, hb5⟩
        have HR := Lib.hid hr
        obtain ⟨s', A', n', c', rfl⟩ := hr.form
        clear hr
        have hB5 : Below w3.heap.size w3 w5 := hB4.trans (hb5.mono hB4.size)
        have hbk := k3.below hB5 (by omega)
        have q0 : w5.cell? ⟨g, 0, none⟩ = some (.int .i64 0) := hbk.cell 0
        have q1 : w5.cell? ⟨g, 1, none⟩ = some (.slice none 0 0) := hbk.cell 1
        have f0 := hbk.frozen 0
        have f1 := hbk.frozen 1
        have hB6 := ((hB5.mono (B' := g) (by omega)).setCell (p := ⟨g, 0, none⟩) (Nat.le_refl _) (.int .i64 s')).setCell (p := ⟨g, 1, none⟩) (Nat.le_refl _) (.slice A' n' c')
        have hbs := hbk.set2 (.int .i64 s') (.slice A' n' c')
        have hd0 := hbs.cell 0
        have hd1 := hbs.cell 1
        simp at hd0 hd1
        go_wp2_with fail
        refine bodyPost_ret (v := .tuple #[.agg #[.int .i64 s', .slice A' n' c'], .int .i64 (fite z)]) (by simp [results, Tryz.results60, go_sem, hd0, hd1]) rfl ?_
        have hof := (hown4.below hb5).far2 (g := g) (by first | omega | (simp; omega)) (.int .i64 s') (.slice A' n' c')
        exact ⟨_, rfl, HR.out.fito (hof.mono (by have := hb3.size; first | omega | (simp; omega))), hb3.trans (hB6.mono (by omega))⟩
      · by_cases hneg : sx * st < 0
        · have hnl : ¬ ab x < ab t := fun h => hp ⟨hneg, h⟩
          clear hp
          have ⟨hv, hsg⟩ := sum_else (x := x) (t := t) hx00 (by rw [← HSX.out, ← HST.out]; exact (.inr hnl))
          rw [← HSX.out, ← HST.out] at hv
          have hcb := fun (w' : World) (hb : Below w.heap.size w w') => HCB1.out 1 (sx * st) w' hb (by omega) (by omega) (by omega) (by omega) (by rw [hv]; exact ab_nonneg _)
          have hft := fun A c w' => fitting_any z sx A c w' (fun h => by rw [HZ.out] at h ⊢; rw [← hsg h]; exact HSX.out)
          rw [hv, ← HZ.out] at hcb
          have HCB := Lib.hid hcb; clear hcb hv hsg
          have HFT := Lib.hid hft; clear hft
          have hcmp := compare_nn hnl
          obtain ⟨cz, hcz⟩ : ∃ z, Lib.compareInt (ab x) (ab t) = z := ⟨_, rfl⟩
          have hor := fun (w' : World) (hb : Below w.heap.size w w') => HOR.out w' hb
          rw [hcz] at hor hcmp
          have HO := Lib.hid hor; clear hor hcz HOR
          go_enter Tryz.func60, Tryz.ntmps60
          go_wp2_with fail
          obtain ⟨w1, hw1, hb1, k1, k2, k3, hsz⟩ := boxes3 w #[.int .i64 sx, .slice A1 n1 c1] #[.int .i64 sy, .slice A2 n2 c2] #[.int .i64 0, .slice none 0 0]
          rw [← hw1]
          clear hw1
          refine (HR1.out w1 hb1).mono ?_
          rintro e w2 ⟨rfl, hb2⟩
          have k1 := k1.below hb2 k1.lt
          have k2 := k2.below hb2 k2.lt
          have k3 := k3.below hb2 k3.lt
          have hs2' := hb2.size
          have hb2 := hb1.trans (hb2.mono hb1.size)
          have j1 : w2.cell? ⟨w.heap.size + 1, 0, none⟩ = some (.int .i64 sy) := k2.cell 0
          have j2 : w2.cell? ⟨w.heap.size + 1, 1, none⟩ = some (.slice A2 n2 c2) := k2.cell 1
          go_wp2_with fail
          refine (HR2.out w2 hb2).mono ?_
          rintro e w3 ⟨rfl, hb3⟩
          clear j1 j2
          have k1 := k1.below hb3 k1.lt
          have k2 := k2.below hb3 k2.lt
          have k3 := k3.below hb3 k3.lt
          have hs3' := hb3.size
          have hb3 := hb2.trans (hb3.mono hb2.size)
          clear hb1 hb2 HR1 HR2
          obtain ⟨g, hg⟩ : ∃ g, w.heap.size + 1 + 1 = g := ⟨_, rfl⟩
          have hgw : w.heap.size + 1 < g ∧ g < w3.heap.size := by have := k3.lt; omega
          rw [hg] at k3 ⊢
          clear hg hsz hs2' hs3'
          have j0 : w3.cell? ⟨w.heap.size, 0, none⟩ = some (.int .i64 sx) := k1.cell 0
          have j1 : w3.cell? ⟨w.heap.size, 1, none⟩ = some (.slice A1 n1 c1) := k1.cell 1
          have j2 : w3.cell? ⟨w.heap.size + 1, 0, none⟩ = some (.int .i64 sy) := k2.cell 0
          have j3 : w3.cell? ⟨w.heap.size + 1, 1, none⟩ = some (.slice A2 n2 c2) := k2.cell 1
          have e0 : ∀ W' : World, Below g w3 W' → W'.cell? ⟨w.heap.size, 0, none⟩ = some (.int .i64 sx) ∧ W'.cell? ⟨w.heap.size, 1, none⟩ = some (.slice A1 n1 c1) ∧ W'.cell? ⟨w.heap.size + 1, 0, none⟩ = some (.int .i64 sy) ∧ W'.cell? ⟨w.heap.size + 1, 1, none⟩ = some (.slice A2 n2 c2) ∧ Below g w3 W' := fun W' hW =>
            ⟨(k1.below hW (by omega)).cell 0, (k1.below hW (by omega)).cell 1, (k2.below hW (by omega)).cell 0, (k2.below hW (by omega)).cell 1, hW⟩
          have E0 := Lib.hid e0; clear e0
          have hwm : IntKind.i64.wrap (sx * st) = sx * st := IntWalk.i64_in _ (by omega)
          go_wp2_with fail
          (with_reducible refine (HO.out w3 hb3).mono ?_)
          rintro e w3' ⟨rfl, q, rfl⟩
          have hB00 : Below g w3 (w3.drewN q) := below_drewN (Below.refl _ _) q
          have hB01 : Below w3.heap.size w3 (w3.drewN q) := below_drewN (Below.refl _ _) q
          go_wp2_with fail
          go_region_held3 (fun W' => W'.cell? ⟨w.heap.size, 0, none⟩ = some (.int .i64 sx) ∧ W'.cell? ⟨w.heap.size, 1, none⟩ = some (.slice A1 n1 c1) ∧ W'.cell? ⟨w.heap.size + 1, 0, none⟩ = some (.int .i64 sy) ∧ W'.cell? ⟨w.heap.size + 1, 1, none⟩ = some (.slice A2 n2 c2) ∧ Below g w3 W')
            (first | exact E0.out _ (by assumption) | exact E0.out _ ⟨rfl, rfl, rfl, Nat.le_refl _, fun _ _ => rfl⟩)
            (first
              | (go_at_call 71; refine (HCB.out (w3.drewN (q + 1)) ⟨hb3.os, hb3.tape, hb3.output, hb3.size, hb3.block⟩).mono ?_; rintro e w4 ⟨v4, rfl, hown4, hb4⟩; have hB4 : Below w3.heap.size w3 w4 := ⟨hb4.os, hb4.tape, hb4.output, hb4.size, hb4.block⟩; have hB4g : Below g w3 w4 := hB4.mono (by omega); obtain ⟨A4, c4, rfl, hc4, hm4, hI4⟩ := hown4.at_)
              | (go_at_call 66; refine (HFT.out _ _ _).mono ?_; rintro e w5 ⟨r, rfl, hr, hb5⟩; have HR := Lib.hid hr; obtain ⟨s', A', n', c', rfl⟩ := hr.form; clear hr; have hB5 : Below w3.heap.size w3 w5 := hB4.trans (hb5.mono hB4.size); have hB5g : Below g w3 w5 := hB5.mono (by omega); have hbk := k3.below hB5 (by omega); have q0 : w5.cell? ⟨g, 0, none⟩ = some (.int .i64 0) := hbk.cell 0; have q1 : w5.cell? ⟨g, 1, none⟩ = some (.slice none 0 0) := hbk.cell 1; have f0 := hbk.frozen 0; have f1 := hbk.frozen 1; have hB6 := (hB5g.setCell (p := ⟨g, 0, none⟩) (Nat.le_refl _) (.int .i64 s')).setCell (p := ⟨g, 1, none⟩) (Nat.le_refl _) (.slice A' n' c')))
          have hbs := hbk.set2 (.int .i64 s') (.slice A' n' c')
          have hd0 := hbs.cell 0
          have hd1 := hbs.cell 1
          simp at hd0 hd1
          go_wp2_with fail
          refine bodyPost_ret (v := .tuple #[.agg #[.int .i64 s', .slice A' n' c'], .int .i64 (fite z)]) (by simp [results, Tryz.results60, go_sem, hd0, hd1]) rfl ?_
          have hof := (hown4.below hb5).far2 (g := g) (by first | omega | (simp; omega)) (.int .i64 s') (.slice A' n' c')
          exact ⟨_, rfl, HR.out.fito (hof.mono (by have := hb3.size; first | omega | (simp; omega))), hb3.trans (hB6.mono (by omega))⟩
        · have hnn : 0 ≤ sx * st := by omega
          clear hp
          have ⟨hv, hsg⟩ := sum_else (x := x) (t := t) hx00 (by rw [← HSX.out, ← HST.out]; exact (.inl hnn))
          rw [← HSX.out, ← HST.out] at hv
          have hcb := fun (w' : World) (hb : Below w.heap.size w w') => HCB1.out 1 (sx * st) w' hb (by omega) (by omega) (by omega) (by omega) (by rw [hv]; exact ab_nonneg _)
          have hft := fun A c w' => fitting_any z sx A c w' (fun h => by rw [HZ.out] at h ⊢; rw [← hsg h]; exact HSX.out)
          rw [hv, ← HZ.out] at hcb
          have HCB := Lib.hid hcb; clear hcb hv hsg
          have HFT := Lib.hid hft; clear hft
          clear HOR
          go_enter Tryz.func60, Tryz.ntmps60
          go_wp2_with fail
          obtain ⟨w1, hw1, hb1, k1, k2, k3, hsz⟩ := boxes3 w #[.int .i64 sx, .slice A1 n1 c1] #[.int .i64 sy, .slice A2 n2 c2] #[.int .i64 0, .slice none 0 0]
          rw [← hw1]
          clear hw1
          refine (HR1.out w1 hb1).mono ?_
          rintro e w2 ⟨rfl, hb2⟩
          have k1 := k1.below hb2 k1.lt
          have k2 := k2.below hb2 k2.lt
          have k3 := k3.below hb2 k3.lt
          have hs2' := hb2.size
          have hb2 := hb1.trans (hb2.mono hb1.size)
          have j1 : w2.cell? ⟨w.heap.size + 1, 0, none⟩ = some (.int .i64 sy) := k2.cell 0
          have j2 : w2.cell? ⟨w.heap.size + 1, 1, none⟩ = some (.slice A2 n2 c2) := k2.cell 1
          go_wp2_with fail
          refine (HR2.out w2 hb2).mono ?_
          rintro e w3 ⟨rfl, hb3⟩
          clear j1 j2
          have k1 := k1.below hb3 k1.lt
          have k2 := k2.below hb3 k2.lt
          have k3 := k3.below hb3 k3.lt
          have hs3' := hb3.size
          have hb3 := hb2.trans (hb3.mono hb2.size)
          clear hb1 hb2 HR1 HR2
          obtain ⟨g, hg⟩ : ∃ g, w.heap.size + 1 + 1 = g := ⟨_, rfl⟩
          have hgw : w.heap.size + 1 < g ∧ g < w3.heap.size := by have := k3.lt; omega
          rw [hg] at k3 ⊢
          clear hg hsz hs2' hs3'
          have j0 : w3.cell? ⟨w.heap.size, 0, none⟩ = some (.int .i64 sx) := k1.cell 0
          have j1 : w3.cell? ⟨w.heap.size, 1, none⟩ = some (.slice A1 n1 c1) := k1.cell 1
          have j2 : w3.cell? ⟨w.heap.size + 1, 0, none⟩ = some (.int .i64 sy) := k2.cell 0
          have j3 : w3.cell? ⟨w.heap.size + 1, 1, none⟩ = some (.slice A2 n2 c2) := k2.cell 1
          have e0 : ∀ W' : World, Below g w3 W' → W'.cell? ⟨w.heap.size, 0, none⟩ = some (.int .i64 sx) ∧ W'.cell? ⟨w.heap.size, 1, none⟩ = some (.slice A1 n1 c1) ∧ W'.cell? ⟨w.heap.size + 1, 0, none⟩ = some (.int .i64 sy) ∧ W'.cell? ⟨w.heap.size + 1, 1, none⟩ = some (.slice A2 n2 c2) ∧ Below g w3 W' := fun W' hW =>
            ⟨(k1.below hW (by omega)).cell 0, (k1.below hW (by omega)).cell 1, (k2.below hW (by omega)).cell 0, (k2.below hW (by omega)).cell 1, hW⟩
          have E0 := Lib.hid e0; clear e0
          have hwm : IntKind.i64.wrap (sx * st) = sx * st := IntWalk.i64_in _ (by omega)
          have hB00 : Below g w3 w3.drew := (Below.refl _ _).drew
          have hB01 : Below w3.heap.size w3 w3.drew := (Below.refl _ _).drew
          go_wp2_with fail
          go_region_held3 (fun W' => W'.cell? ⟨w.heap.size, 0, none⟩ = some (.int .i64 sx) ∧ W'.cell? ⟨w.heap.size, 1, none⟩ = some (.slice A1 n1 c1) ∧ W'.cell? ⟨w.heap.size + 1, 0, none⟩ = some (.int .i64 sy) ∧ W'.cell? ⟨w.heap.size + 1, 1, none⟩ = some (.slice A2 n2 c2) ∧ Below g w3 W')
            (first | exact E0.out _ (by assumption) | exact E0.out _ ⟨rfl, rfl, rfl, Nat.le_refl _, fun _ _ => rfl⟩)
            (first
              | (go_at_call 71; refine (HCB.out w3.drew ⟨hb3.os, hb3.tape, hb3.output, hb3.size, hb3.block⟩).mono ?_; rintro e w4 ⟨v4, rfl, hown4, hb4⟩; have hB4 : Below w3.heap.size w3 w4 := ⟨hb4.os, hb4.tape, hb4.output, hb4.size, hb4.block⟩; have hB4g : Below g w3 w4 := hB4.mono (by omega); obtain ⟨A4, c4, rfl, hc4, hm4, hI4⟩ := hown4.at_)
              | (go_at_call 66; refine (HFT.out _ _ _).mono ?_; rintro e w5 ⟨r, rfl, hr, hb5⟩; have HR := Lib.hid hr; obtain ⟨s', A', n', c', rfl⟩ := hr.form; clear hr; have hB5 : Below w3.heap.size w3 w5 := hB4.trans (hb5.mono hB4.size); have hB5g : Below g w3 w5 := hB5.mono (by omega); have hbk := k3.below hB5 (by omega); have q0 : w5.cell? ⟨g, 0, none⟩ = some (.int .i64 0) := hbk.cell 0; have q1 : w5.cell? ⟨g, 1, none⟩ = some (.slice none 0 0) := hbk.cell 1; have f0 := hbk.frozen 0; have f1 := hbk.frozen 1; have hB6 := (hB5g.setCell (p := ⟨g, 0, none⟩) (Nat.le_refl _) (.int .i64 s')).setCell (p := ⟨g, 1, none⟩) (Nat.le_refl _) (.slice A' n' c')))
          have hbs := hbk.set2 (.int .i64 s') (.slice A' n' c')
          have hd0 := hbs.cell 0
          have hd1 := hbs.cell 1
          simp at hd0 hd1
          go_wp2_with fail
          refine bodyPost_ret (v := .tuple #[.agg #[.int .i64 s', .slice A' n' c'], .int .i64 (fite z)]) (by simp [results, Tryz.results60, go_sem, hd0, hd1]) rfl ?_
          have hof := (hown4.below hb5).far2 (g := g) (by first | omega | (simp; omega)) (.int .i64 s') (.slice A' n' c')
          exact ⟨_, rfl, HR.out.fito (hof.mono (by have := hb3.size; first | omega | (simp; omega))), hb3.trans (hB6.mono (by omega))⟩
  exact front (sgn x) (sgn t) (x + t) hsx.1 hsx.2 hst.1 hst.2 rfl rfl rfl

end Go.Proofs.YtkjpfnbdlbnbkaaGreatDoor

namespace Go.Proofs.YtkjpfnbdlbnbkaaGreatDoor
open Go.RowKit

theorem compare_sgn {x y : Int} (h : sgn x ≠ sgn y) : Lib.compareInt (sgn x) (sgn y) = Lib.compareInt x y := by
  unfold Lib.compareInt
  rcases sgn_cases x with ⟨a1, a2, a3⟩ | ⟨a1, a2, a3⟩ | ⟨a1, a2, a3⟩ <;> rcases sgn_cases y with ⟨b1, b2, b3⟩ | ⟨b1, b2, b3⟩ | ⟨b1, b2, b3⟩ <;> rw [a2, b2] at h ⊢ <;> first | (exact absurd rfl h) | skip
  all_goals
    repeat (first | rw [if_pos (by omega)] | rw [if_neg (by omega)])
theorem compare_ab {x y : Int} (h : sgn x = sgn y) : sgn x * Lib.compareInt (ab x) (ab y) = Lib.compareInt x y := by
  unfold Lib.compareInt
  rcases sgn_cases x with ⟨a1, a2, a3⟩ | ⟨a1, a2, a3⟩ | ⟨a1, a2, a3⟩ <;> rcases sgn_cases y with ⟨b1, b2, b3⟩ | ⟨b1, b2, b3⟩ | ⟨b1, b2, b3⟩ <;> rw [a2, b2] at h <;> first | (exfalso; omega) | (rw [a2, a3, b3])
  · rcases Int.lt_trichotomy x y with h | h | h
    · rw [if_neg (by omega), if_pos (by omega), if_pos h]; rfl
    · rw [if_neg (by omega), if_neg (by omega), if_neg (by omega), if_neg (by omega)]; rfl
    · rw [if_pos (by omega), if_neg (by omega), if_pos (by omega)]; rfl
  · subst a1; subst b1; rfl
  · rw [Int.one_mul]
theorem compare_bd (x y : Int) : -1 ≤ Lib.compareInt x y ∧ Lib.compareInt x y ≤ 1 := by unfold Lib.compareInt; split <;> (try split) <;> omega

set_option maxRecDepth 100000 in
set_option maxHeartbeats 2000000 in
theorem compare_any (x y : Int) (vx vy : Value) (w : World) (hx : BV w w.heap.size vx x) (hy : BV w w.heap.size vy y) (hx6 : ab x < pw 60) (hy6 : ab y < pw 60) :
    Calls Tryz.prog 24 #[vx, vy] w fun e w' => e = .returned (.int .i64 (Lib.compareInt x y)) ∧ Below w.heap.size w w' := by
  obtain ⟨A1, c1, rfl, hc1, hm1, hI1⟩ := hx
  obtain ⟨A2, c2, rfl, hc2, hm2, hI2⟩ := hy
  have hl1 := len60 hx6
  have hl2 := len60 hy6
  have hr1 := fun (w' : World) (hb : Below w.heap.size w w') => right_any (sgn x) (D (ab x)) A1 c1 w' ((hI1.below hb).more hb.size) (by omega) true (by simp [rightP_of hx6])
  have hr2 := fun (w' : World) (hb : Below w.heap.size w w') => right_any (sgn y) (D (ab y)) A2 c2 w' ((hI2.below hb).more hb.size) (by omega) true (by simp [rightP_of hy6])
  have hor := fun (w' : World) (hb : Below w.heap.size w w') => order_any (ab x) (ab y) A1 A2 c1 c2 w' w'.heap.size ((hI1.below hb).more hb.size) ((hI2.below hb).more hb.size) (ab_nonneg _) (ab_nonneg _) (by omega) (by omega)
  have hcs := fun h => compare_sgn (x := x) (y := y) h
  have hca := fun h => compare_ab (x := x) (y := y) h
  obtain ⟨n1, hn1⟩ : ∃ n, (D (ab x)).length = n := ⟨_, rfl⟩
  obtain ⟨n2, hn2⟩ : ∃ n, (D (ab y)).length = n := ⟨_, rfl⟩
  rw [hn1] at hr1 hor ⊢
  rw [hn2] at hr2 hor ⊢
  obtain ⟨s1, hs1e⟩ : ∃ s, sgn x = s := ⟨_, rfl⟩
  obtain ⟨s2, hs2e⟩ : ∃ s, sgn y = s := ⟨_, rfl⟩
  have hs1 := sgn_bd x
  rw [hs1e] at hr1 hcs hca hs1 ⊢
  rw [hs2e] at hr2 hcs hca ⊢
  have hcb := compare_bd (ab x) (ab y)
  obtain ⟨cz, hcz⟩ : ∃ z, Lib.compareInt (ab x) (ab y) = z := ⟨_, rfl⟩
  rw [hcz] at hor hca hcb
  have HR1 := Lib.hid hr1; clear hr1
  have HR2 := Lib.hid hr2; clear hr2
  have HOR := Lib.hid hor; clear hor
  have HCS := Lib.hid hcs; clear hcs
  have HCA := Lib.hid hca; clear hca
  clear hn1 hn2 hs1e hs2e hI1 hI2 hx6 hy6 hc1 hc2 hcz
  by_cases hss : s1 = s2
  · subst hss
    have hfin := HCA.out rfl
    have HF := Lib.hid hfin; clear hfin
    have hwm : IntKind.i64.wrap (s1 * cz) = s1 * cz := IntWalk.i64_in _ (by
      have a : s1 = -1 ∨ s1 = 0 ∨ s1 = 1 := by omega
      rcases a with rfl | rfl | rfl <;> omega)
    go_enter Tryz.func24, Tryz.ntmps24
    go_wp2_with fail
    obtain ⟨w1, hw1, hb1, k1, k2, hsz⟩ := boxes2 w #[.int .i64 s1, .slice A1 n1 c1] #[.int .i64 s1, .slice A2 n2 c2]
    rw [← hw1]
    clear hw1
    (with_reducible refine (HR1.out w1 hb1).mono ?_)
    rintro e w2 ⟨rfl, hb2⟩
    have k1 := k1.below hb2 k1.lt
    have k2 := k2.below hb2 k2.lt
    have hb2 := hb1.trans (hb2.mono hb1.size)
    have j1 : w2.cell? ⟨w.heap.size + 1, 0, none⟩ = some (.int .i64 s1) := k2.cell 0
    have j2 : w2.cell? ⟨w.heap.size + 1, 1, none⟩ = some (.slice A2 n2 c2) := k2.cell 1
    go_wp2_with fail
    (with_reducible refine (HR2.out w2 hb2).mono ?_)
    rintro e w3 ⟨rfl, hb3⟩
    clear j1 j2
    have k1 := k1.below hb3 k1.lt
    have k2 := k2.below hb3 k2.lt
    have hb3 := hb2.trans (hb3.mono hb2.size)
    have j0 : w3.cell? ⟨w.heap.size, 0, none⟩ = some (.int .i64 s1) := k1.cell 0
    have j1 : w3.cell? ⟨w.heap.size, 1, none⟩ = some (.slice A1 n1 c1) := k1.cell 1
    have j2 : w3.cell? ⟨w.heap.size + 1, 0, none⟩ = some (.int .i64 s1) := k2.cell 0
    have j3 : w3.cell? ⟨w.heap.size + 1, 1, none⟩ = some (.slice A2 n2 c2) := k2.cell 1
    go_wp2_with fail
    go_quiet ((go_at_call 81; exact Calls.quiet_of (HOR.out _ (below_drewN hb3 _))))
    go_wp2_with fail
    go_ret
    exact ⟨by rw [← HF.out]; rfl, below_drewN hb3 _⟩
  · have hfin := HCS.out hss
    have HF := Lib.hid hfin; clear hfin
    have hne : (s1 != s2) = true := by simpa using hss
    go_enter Tryz.func24, Tryz.ntmps24
    go_wp2_with fail
    obtain ⟨w1, hw1, hb1, k1, k2, hsz⟩ := boxes2 w #[.int .i64 s1, .slice A1 n1 c1] #[.int .i64 s2, .slice A2 n2 c2]
    rw [← hw1]
    clear hw1
    (with_reducible refine (HR1.out w1 hb1).mono ?_)
    rintro e w2 ⟨rfl, hb2⟩
    have k1 := k1.below hb2 k1.lt
    have k2 := k2.below hb2 k2.lt
    have hb2 := hb1.trans (hb2.mono hb1.size)
    have j1 : w2.cell? ⟨w.heap.size + 1, 0, none⟩ = some (.int .i64 s2) := k2.cell 0
    have j2 : w2.cell? ⟨w.heap.size + 1, 1, none⟩ = some (.slice A2 n2 c2) := k2.cell 1
    go_wp2_with fail
    (with_reducible refine (HR2.out w2 hb2).mono ?_)
    rintro e w3 ⟨rfl, hb3⟩
    clear j1 j2
    have k1 := k1.below hb3 k1.lt
    have k2 := k2.below hb3 k2.lt
    have hb3 := hb2.trans (hb3.mono hb2.size)
    have j0 : w3.cell? ⟨w.heap.size, 0, none⟩ = some (.int .i64 s1) := k1.cell 0
    have j2 : w3.cell? ⟨w.heap.size + 1, 0, none⟩ = some (.int .i64 s2) := k2.cell 0
    go_wp2_with fail
    (with_reducible refine (Tryz.cmp_Compare_int _ _ _).mono ?_)
    rintro e w4 ⟨rfl, rfl⟩
    go_wp2_with fail
    go_ret
    exact ⟨by rw [← HF.out]; rfl, hb3⟩

/-- Two big integers are the same just where they are one. -/
theorem same_iff {x y : Int} : (sgn x = sgn y ∧ D (ab x) = D (ab y)) ↔ x = y := by
  constructor
  · rintro ⟨h1, h2⟩
    have h3 := D_inj (ab_nonneg x) (ab_nonneg y) h2
    have e1 := sgn_ab x
    have e2 := sgn_ab y
    rw [h1, h3] at e1
    omega
  · rintro rfl; exact ⟨rfl, rfl⟩

set_option maxRecDepth 100000 in
set_option maxHeartbeats 1000000 in
theorem same_any (x y : Int) (vx vy : Value) (w : World) (hx : BV w w.heap.size vx x) (hy : BV w w.heap.size vy y) :
    Calls Tryz.prog 26 #[vx, vy] w fun e w' => e = .returned (.bool (decide (x = y))) ∧ Below w.heap.size w w' := by
  obtain ⟨A1, c1, rfl, hc1, hm1, hI1⟩ := hx
  obtain ⟨A2, c2, rfl, hc2, hm2, hI2⟩ := hy
  have heq := fun (w' : World) (hb : Below w.heap.size w w') => equal_any (D (ab x)) (D (ab y)) A1 A2 c1 c2 w.heap.size w' (hI1.below hb) (hI2.below hb) (by omega) (by omega)
  have hres : ∀ b : Bool, (sgn x = sgn y → b = decide (D (ab x) = D (ab y))) → (sgn x ≠ sgn y → b = false) → b = decide (x = y) := by
    intro b h1 h2
    by_cases hs : sgn x = sgn y
    · rw [h1 hs, decide_eq_decide]
      exact ⟨fun h => same_iff.1 ⟨hs, h⟩, fun h => (same_iff.2 h).2⟩
    · rw [h2 hs]
      symm
      rw [decide_eq_false_iff_not]
      exact fun h => hs (same_iff.2 h).1
  have hbx : Below w.heap.size w ((w.alloc (.cells #[.int .i64 (sgn x), .slice A1 (D (ab x)).length c1] 24)).alloc (.cells #[.int .i64 (sgn y), .slice A2 (D (ab y)).length c2] 24)) := ((Below.refl _ _).alloc (Nat.le_refl _) _).alloc (by simp) _
  obtain ⟨dd, hdd⟩ : ∃ b, decide (D (ab x) = D (ab y)) = b := ⟨_, rfl⟩
  rw [hdd] at heq hres
  obtain ⟨n1, hn1⟩ : ∃ n, (D (ab x)).length = n := ⟨_, rfl⟩
  obtain ⟨n2, hn2⟩ : ∃ n, (D (ab y)).length = n := ⟨_, rfl⟩
  rw [hn1, hn2] at heq hbx
  rw [hn1, hn2]
  obtain ⟨s1, hs1e⟩ : ∃ s, sgn x = s := ⟨_, rfl⟩
  obtain ⟨s2, hs2e⟩ : ∃ s, sgn y = s := ⟨_, rfl⟩
  rw [hs1e, hs2e] at hres hbx
  rw [hs1e, hs2e]
  have HE := Lib.hid heq; clear heq
  have HRS := Lib.hid hres; clear hres
  have HBX := Lib.hid hbx; clear hbx
  clear hn1 hn2 hs1e hs2e hI1 hI2 hc1 hc2 hdd
  by_cases hss : s1 = s2
  · have hfin := HRS.out dd (fun _ => rfl) (fun h => absurd hss h)
    subst hss
    rw [← hfin]
    clear hfin
    go_enter Tryz.func26, Tryz.ntmps26
    go_wp2_with fail
    (with_reducible refine (HE.out _ HBX.out).mono ?_)
    rintro e w4 ⟨rfl, q, rfl⟩
    go_wp2_with fail
    go_ret
    exact ⟨rfl, below_drewN HBX.out _⟩
  · have hfin := HRS.out false (fun h => absurd h hss) (fun _ => rfl)
    have hb : (s1 == s2) = false := by simpa using hss
    rw [← hfin]
    clear hfin
    go_enter Tryz.func26, Tryz.ntmps26
    go_wp2_with fail
    go_ret
    exact ⟨rfl, HBX.out⟩

set_option maxRecDepth 100000 in
set_option maxHeartbeats 1000000 in
theorem few_any (s n : Int) (l : List Int) (A : Option Addr) (c : Nat) (w : World) (b : Bool) (hb : b = decide ((l.length : Int) ≤ n)) :
    Calls Tryz.prog 6 #[.agg #[.int .i64 s, .slice A l.length c], .int .i64 n] w fun e w' => e = .returned (.bool b) ∧ Below w.heap.size w w' := by
  subst hb
  go_enter Tryz.func6, Tryz.ntmps6
  go_wp2_with fail
  go_ret
  exact ⟨rfl, (Below.refl _ _).alloc (Nat.le_refl _) _⟩

/-- The reference's Same, at big integers that are right. -/
theorem refSame_len {x y : Int} (h : (D (ab x)).length ≠ (D (ab y)).length) : decide (x = y) = false := by
  rw [decide_eq_false_iff_not]; rintro rfl; exact h rfl
theorem refSame_sgn {x y : Int} (h : sgn x ≠ sgn y) : decide (x = y) = false := by
  rw [decide_eq_false_iff_not]; rintro rfl; exact h rfl

set_option maxRecDepth 100000 in
set_option maxHeartbeats 2000000 in
theorem refSame_any (x y : Int) (vx vy : Value) (w : World) (hx : BV w w.heap.size vx x) (hy : BV w w.heap.size vy y) :
    Calls Tryz.prog 13 #[vx, vy] w fun e w' => e = .returned (.bool (decide (x = y))) ∧ Below w.heap.size w w' := by
  obtain ⟨A1, c1, rfl, hc1, hm1, hI1⟩ := hx
  obtain ⟨A2, c2, rfl, hc2, hm2, hI2⟩ := hy
  have hbx : Below w.heap.size w ((w.alloc (.cells #[.int .i64 (sgn x), .slice A1 (D (ab x)).length c1] 24)).alloc (.cells #[.int .i64 (sgn y), .slice A2 (D (ab y)).length c2] 24)) := ((Below.refl _ _).alloc (Nat.le_refl _) _).alloc (by simp) _
  by_cases hss : sgn x = sgn y
  · by_cases hll : (D (ab x)).length = (D (ab y)).length
    · have hdec : ∀ b : Bool, (D (ab x) = D (ab y) → b = true) → (D (ab x) ≠ D (ab y) → b = false) → b = decide (x = y) := by
        intro b h1 h2
        by_cases hd : D (ab x) = D (ab y)
        · rw [h1 hd]; symm; rw [decide_eq_true_iff]; exact same_iff.1 ⟨hss, hd⟩
        · rw [h2 hd]; symm; rw [decide_eq_false_iff_not]; exact fun h => hd (same_iff.2 h).2
      rw [← hss, ← hll] at hbx ⊢
      obtain ⟨lx, hlx⟩ : ∃ l, D (ab x) = l := ⟨_, rfl⟩
      obtain ⟨ly, hly⟩ : ∃ l, D (ab y) = l := ⟨_, rfl⟩
      rw [hlx, hly] at hdec hll
      rw [hlx] at hbx hI1 hc1 ⊢
      rw [hly] at hI2 hc2
      obtain ⟨n, hn⟩ : ∃ n, lx.length = n := ⟨_, rfl⟩
      have hnn : lx.length ≤ n ∧ n ≤ lx.length ∧ ly.length ≤ n ∧ n ≤ ly.length := by omega
      rw [hn] at hbx hc1 ⊢
      obtain ⟨s, hs⟩ : ∃ s, sgn x = s := ⟨_, rfl⟩
      rw [hs] at hbx ⊢
      have hnm : n ≤ 9223372036854775807 := by omega
      obtain ⟨W, hW⟩ : ∃ W, W = (w.alloc (.cells #[.int .i64 s, .slice A1 n c1] 24)).alloc (.cells #[.int .i64 s, .slice A2 n c2] 24) := ⟨_, rfl⟩
      obtain ⟨W', hW', _, k1, k2, _⟩ := boxes2 w #[.int .i64 s, .slice A1 n c1] #[.int .i64 s, .slice A2 n c2]
      rw [← hW'] at hW
      subst hW
      have HDEC := Lib.hid hdec
      clear hdec hn hs hll hlx hly hss hc1 hc2
      go_enter Tryz.func13, Tryz.ntmps13
      go_wp2_with fail
      rw [← hW'] at hbx ⊢
      clear hW'
      go_loopw [5] (fun i wr => ∃ k : Nat, k ≤ n ∧ i = .int .i64 k ∧ Hid (lx.take k = ly.take k) ∧ ∃ q, wr = W.drewN q) (fun i _ => n - (intOf i).toNat)
      case atStart => exact ⟨0, Nat.zero_le _, rfl, Lib.hid rfl, 0, rfl⟩
      case round =>
        obtain ⟨k, hk, rfl, ht, q, rfl⟩ := hrel
        have j1 : (W.drewN q).cell? ⟨w.heap.size, 1, none⟩ = some (.slice A1 n c1) := k1.cell 1
        have j2 : (W.drewN q).cell? ⟨w.heap.size + 1, 1, none⟩ = some (.slice A2 n c2) := k2.cell 1
        by_cases hlt : k < n
        · obtain ⟨b1, o1, hA1, hB1, hk1⟩ := hI1 k (by omega)
          obtain ⟨b2, o2, hA2, hB2, hk2⟩ := hI2 k (by omega)
          subst hA1; subst hA2
          have hk1 : (W.drewN q).cell? ⟨b1, o1 + k, none⟩ = some (.int .i64 (lx.getD k 0)) := (hbx.cell (p := ⟨b1, o1 + k, none⟩) hB1).trans hk1
          have hk2 : (W.drewN q).cell? ⟨b2, o2 + k, none⟩ = some (.int .i64 (ly.getD k 0)) := (hbx.cell (p := ⟨b2, o2 + k, none⟩) hB2).trans hk2
          have jW1 : W.cell? ⟨w.heap.size, 1, none⟩ = some (.slice (some ⟨b1, o1, none⟩) n c1) := k1.cell 1
          have jW2 : W.cell? ⟨w.heap.size + 1, 1, none⟩ = some (.slice (some ⟨b2, o2, none⟩) n c2) := k2.cell 1
          have hkW1 : W.cell? ⟨b1, o1 + k, none⟩ = some (.int .i64 (lx.getD k 0)) := hk1
          have hkW2 : W.cell? ⟨b2, o2 + k, none⟩ = some (.int .i64 (ly.getD k 0)) := hk2
          have e1 := take_snoc (l := lx) (k := k) (by omega)
          have e2 := take_snoc (l := ly) (k := k) (by omega)
          have hne : lx.getD k 0 ≠ ly.getD k 0 → lx ≠ ly := fun h e => h (by rw [e])
          obtain ⟨u, hu⟩ : ∃ u, lx.getD k 0 = u := ⟨_, rfl⟩
          obtain ⟨v, hv⟩ : ∃ u, ly.getD k 0 = u := ⟨_, rfl⟩
          rw [hu] at hk1 e1 hne hkW1
          rw [hv] at hk2 e2 hne hkW2
          clear hu hv
          have HE1 := Lib.hid e1; clear e1
          have HE2 := Lib.hid e2; clear e2
          have HNE := Lib.hid hne; clear hne
          by_cases huv : u = v
          · subst huv
            go_wp2_with fail
            go_quiet (fail)
            go_wp2_with fail
            go_roundw
            case rel => exact ⟨k + 1, by omega, by go_num, Lib.hid (by rw [HE1.out, HE2.out, ht.out]), _, rfl⟩
            case measure => simp [intOf]; omega
          · have huv' : (u != v) = true := by simpa using huv
            go_wp2_with fail
            go_quiet (fail)
            go_wp2_with fail
            go_ret
            exact ⟨by rw [← HDEC.out false (fun h => absurd h (HNE.out huv)) (fun _ => rfl)]; rfl, below_drewN (below_drewN hbx _) _⟩
        · have : k = n := by omega
          subst this
          have he := ht.out
          rw [List.take_of_length_le (l := lx) (by omega), List.take_of_length_le (l := ly) (by omega)] at he
          have HE := Lib.hid he; clear he
          go_wp2_with fail
          go_ret
          exact ⟨by rw [← HDEC.out true (fun _ => rfl) (fun h => absurd HE.out h)]; rfl, below_drewN hbx _⟩
    · rw [refSame_len hll]
      obtain ⟨n1, hn1⟩ : ∃ n, (D (ab x)).length = n := ⟨_, rfl⟩
      obtain ⟨n2, hn2⟩ : ∃ n, (D (ab y)).length = n := ⟨_, rfl⟩
      rw [hn1, hn2] at hll hbx
      rw [hn1, hn2]
      rw [← hss] at hbx ⊢
      obtain ⟨s, hs⟩ : ∃ s, sgn x = s := ⟨_, rfl⟩
      rw [hs] at hbx ⊢
      have hd : decide (n1 = n2) = false := by simpa using hll
      have HBX := Lib.hid hbx
      clear hn1 hn2 hs hss hbx hI1 hI2 hc1 hc2
      go_enter Tryz.func13, Tryz.ntmps13
      go_wp2_with fail
      go_ret
      exact ⟨rfl, HBX.out⟩
  · rw [refSame_sgn hss]
    obtain ⟨n1, hn1⟩ : ∃ n, (D (ab x)).length = n := ⟨_, rfl⟩
    obtain ⟨n2, hn2⟩ : ∃ n, (D (ab y)).length = n := ⟨_, rfl⟩
    rw [hn1, hn2] at hbx
    rw [hn1, hn2]
    obtain ⟨s1, hs1⟩ : ∃ s, sgn x = s := ⟨_, rfl⟩
    obtain ⟨s2, hs2⟩ : ∃ s, sgn y = s := ⟨_, rfl⟩
    rw [hs1, hs2] at hss hbx
    rw [hs1, hs2]
    have hd : (s1 != s2) = true := by simpa using hss
    have HBX := Lib.hid hbx
    clear hn1 hn2 hs1 hs2 hss hbx hI1 hI2 hc1 hc2
    go_enter Tryz.func13, Tryz.ntmps13
    go_wp2_with fail
    go_ret
    exact ⟨rfl, HBX.out⟩

end Go.Proofs.YtkjpfnbdlbnbkaaGreatDoor

namespace Go.Proofs.YtkjpfnbdlbnbkaaGreatDoor
open Go.RowKit

set_option maxRecDepth 100000 in
set_option maxHeartbeats 2000000 in
theorem pair_yes (x y : Int) (vx vy : Value) (w : World) (hx : BV w w.heap.size vx x) (hy : BV w w.heap.size vy y) (hx6 : isI x) (hy6 : isI y) :
    Calls Tryz.prog 59 #[vx, vy, .int .i64 0, .int .i64 x, .int .i64 y] w fun e w' => e = .returned (.bool true) ∧ Below w.heap.size w w' := by
  obtain ⟨A1, c1, rfl, hc1, hm1, hI1⟩ := hx
  obtain ⟨A2, c2, rfl, hc2, hm2, hI2⟩ := hy
  have hsx := fun (w' : World) (hb : Below w.heap.size w w') r (h : BV w' w'.heap.size r x) => same_any x x _ r w' (BV.later ⟨A1, c1, rfl, hc1, hm1, hI1⟩ hb) h
  have hsy := fun (w' : World) (hb : Below w.heap.size w w') r (h : BV w' w'.heap.size r y) => same_any y y _ r w' (BV.later ⟨A2, c2, rfl, hc2, hm2, hI2⟩ hb) h
  simp only [decide_true] at hsx hsy
  obtain ⟨s1, hs1⟩ : ∃ s, sgn x = s := ⟨_, rfl⟩
  obtain ⟨s2, hs2⟩ : ∃ s, sgn y = s := ⟨_, rfl⟩
  obtain ⟨n1, hn1⟩ : ∃ n, (D (ab x)).length = n := ⟨_, rfl⟩
  obtain ⟨n2, hn2⟩ : ∃ n, (D (ab y)).length = n := ⟨_, rfl⟩
  rw [hs1, hn1] at hsx ⊢
  rw [hs2, hn2] at hsy ⊢
  have hox := fun w' => of_any x w' hx6.1 hx6.2
  have hoy := fun w' => of_any y w' hy6.1 hy6.2
  have HSX := Lib.hid hsx; clear hsx
  have HSY := Lib.hid hsy; clear hsy
  have HOX := Lib.hid hox; clear hox
  have HOY := Lib.hid hoy; clear hoy
  clear hs1 hs2 hn1 hn2 hc1 hm1 hI1 hc2 hm2 hI2 hx6 hy6
  go_enter Tryz.func59, Tryz.ntmps59
  go_wp2_with fail
  obtain ⟨w1, hw1, hb1, k1, k2, hsz⟩ := boxes2 w #[.int .i64 s1, .slice A1 n1 c1] #[.int .i64 s2, .slice A2 n2 c2]
  rw [← hw1]
  clear hw1
  have e0 : ∀ W' : World, Below w1.heap.size w1 W' → W'.cell? ⟨w.heap.size, 0, none⟩ = some (.int .i64 s1) ∧ W'.cell? ⟨w.heap.size, 1, none⟩ = some (.slice A1 n1 c1) ∧ W'.cell? ⟨w.heap.size + 1, 0, none⟩ = some (.int .i64 s2) ∧ W'.cell? ⟨w.heap.size + 1, 1, none⟩ = some (.slice A2 n2 c2) ∧ Below w1.heap.size w1 W' := fun W' hW =>
    ⟨(k1.below hW k1.lt).cell 0, (k1.below hW k1.lt).cell 1, (k2.below hW k2.lt).cell 0, (k2.below hW k2.lt).cell 1, hW⟩
  have E0 := Lib.hid e0; clear e0
  have hB00 : Below w1.heap.size w1 w1.drew := (Below.refl _ _).drew
  clear k1 k2 hsz
  have hs1 := hb1.size
  go_region_held3 (fun W' => W'.cell? ⟨w.heap.size, 0, none⟩ = some (.int .i64 s1) ∧ W'.cell? ⟨w.heap.size, 1, none⟩ = some (.slice A1 n1 c1) ∧ W'.cell? ⟨w.heap.size + 1, 0, none⟩ = some (.int .i64 s2) ∧ W'.cell? ⟨w.heap.size + 1, 1, none⟩ = some (.slice A2 n2 c2) ∧ Below w1.heap.size w1 W')
    (first | exact E0.out _ (by assumption) | exact E0.out _ ⟨rfl, rfl, rfl, Nat.le_refl _, fun _ _ => rfl⟩)
    (first
      | (go_at_call 31; have _h := hB5; refine (HOY.out _).mono ?_; rintro e w6 ⟨r2, rfl, hr2, hb6⟩; have hB6 : Below w1.heap.size w1 w6 := hB5.trans (hb6.mono hB5.size))
      | (go_at_call 31; refine (HOX.out _).mono ?_; rintro e w4 ⟨r1, rfl, hr1, hb4⟩; have hB4 : Below w1.heap.size w1 w4 := ⟨hb4.os, hb4.tape, hb4.output, hb4.size, hb4.block⟩)
      | (go_at_call 26; have _h := hB6; refine (HSY.out _ (hb1.trans (hB6.mono hs1)) _ hr2.bv).mono ?_; rintro e w7 ⟨rfl, hb7⟩; have hB7 : Below w1.heap.size w1 w7 := hB6.trans (hb7.mono hB6.size))
      | (go_at_call 26; refine (HSX.out _ (hb1.trans (hB4.mono hs1)) _ hr1.bv).mono ?_; rintro e w5 ⟨rfl, hb5⟩; have hB5 : Below w1.heap.size w1 w5 := hB4.trans (hb5.mono hB4.size)))
  go_wp2_with fail
  go_ret
  exact ⟨rfl, hb1.trans (hB7.mono hs1)⟩

end Go.Proofs.YtkjpfnbdlbnbkaaGreatDoor
