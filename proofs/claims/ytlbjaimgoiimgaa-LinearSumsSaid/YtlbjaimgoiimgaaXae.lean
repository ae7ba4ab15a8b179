/- Walks: text. Walks: back to an int. Walks: sum, Add, Sub. Walks: Compare, Same (the program's and the reference's), few. Walks: the law's helper: a quotient and a remainder are two ints. Walks: Neg, Gcd. -/
import Derived.Test.YtlbjaimgoiimgaaXad
import Derived.Laws.Concat
import Derived.Test.YtlbjaimgoiimgaaXab

namespace Go.Proofs.Ytlbjaimgoiimgaa
open Go.RowKit

theorem dd_len_pw (n : Nat) (hn : 1 ≤ n) (X : Int) (h0 : 0 ≤ X) (h : X < pw n) : (Lib.decDigits X.toNat).length ≤ 7 * n := by
  refine dd_len_le (by omega) ?_
  have h1 : (1048576 : Nat) ^ n ≤ 10 ^ (7 * n) := by
    rw [Nat.pow_mul]
    exact Nat.pow_le_pow_left (by decide) n
  have h2 : ((1048576 ^ n : Nat) : Int) = pw n := by unfold pw; simp
  have h3 : X.toNat < 1048576 ^ n := by omega
  omega

/-- The pieces so far, of X, when Y is still to do. -/
def PcP (X Y : Int) (P : List (List UInt8)) : Prop := Lib.decDigits X.toNat = Lib.decDigits Y.toNat ++ P.reverse.flatten ∧ P.length ≤ P.reverse.flatten.length
theorem PcP.start (X : Int) : PcP X X [] := ⟨by simp, by simp⟩
theorem PcP.step {X Y : Int} {P : List (List UInt8)} (h : PcP X Y P) (h0 : 0 < Y / 1000000000000) :
    PcP X (Y / 1000000000000) (P ++ [List.replicate (12 - (Lib.decDigits (Y % 1000000000000).toNat).length) 48 ++ Lib.decDigits (Y % 1000000000000).toNat]) := by
  have hY : Y.toNat = (Y / 1000000000000).toNat * 10 ^ 12 + (Y % 1000000000000).toNat := by omega
  have hp := dd_pad 12 (Y / 1000000000000).toNat (Y % 1000000000000).toNat (by omega) (by omega) (by omega)
  rw [← hY] at hp
  obtain ⟨h1, h2⟩ := h
  refine ⟨?_, ?_⟩
  · rw [h1, hp, List.reverse_append, List.append_assoc]
    rfl
  · rw [List.reverse_append, List.length_append]
    show P.length + 1 ≤ ((List.replicate (12 - (Lib.decDigits (Y % 1000000000000).toNat).length) 48 ++ Lib.decDigits (Y % 1000000000000).toNat) ++ P.reverse.flatten).length
    have : 0 < (Lib.decDigits (Y % 1000000000000).toNat).length := List.length_pos_iff.2 (dd_ne _)
    rw [List.length_append, List.length_append]
    omega
theorem PcP.len {X Y : Int} {P : List (List UInt8)} (h : PcP X Y P) {n : Nat} (hX : (Lib.decDigits X.toNat).length ≤ n) : P.length ≤ n := by
  have h1 := congrArg List.length h.1
  rw [List.length_append] at h1
  have := h.2
  omega
theorem PcP.done {z Y : Int} {P : List (List UInt8)} (h : PcP (ab z) Y P) (hz : ¬ z < 0) : (P ++ [Lib.decDigits Y.toNat]).reverse.flatten = Lib.itoa z := by
  rw [itoa_ab, if_neg hz, h.1, List.reverse_append]
  rfl
theorem PcP.doneN {z Y : Int} {P : List (List UInt8)} (h : PcP (ab z) Y P) (hz : z < 0) : (P ++ [Lib.decDigits Y.toNat] ++ [[45]]).reverse.flatten = Lib.itoa z := by
  rw [itoa_ab, if_pos hz, h.1, List.reverse_append, List.reverse_append]
  rfl

theorem sgn_lt (z : Int) : (decide (sgn z < 0)) = decide (z < 0) := by
  unfold sgn
  split <;> (try split) <;> simp_all <;> omega

theorem byt_app (a b : List UInt8) : byt a ++ byt b = byt (a ++ b) := by
  apply ByteArray.ext
  unfold byt
  simp

end Go.Proofs.Ytlbjaimgoiimgaa

namespace Go.Proofs.Ytlbjaimgoiimgaa
open Go.RowKit

/-- Is it an int? -/
def isI (z : Int) : Prop := -9223372036854775808 ≤ z ∧ z ≤ 9223372036854775807
instance (z : Int) : Decidable (isI z) := inferInstanceAs (Decidable (_ ∧ _))
def IntV (z : Int) : Value := if isI z then .tuple #[.int .i64 z, .bool true] else .tuple #[.int .i64 0, .bool false]
theorem IntV.yes {z : Int} (h : isI z) : IntV z = .tuple #[.int .i64 z, .bool true] := if_pos h
theorem IntV.no {z : Int} (h : ¬ isI z) : IntV z = .tuple #[.int .i64 0, .bool false] := if_neg h

theorem pw3 : pw 3 = 1152921504606846976 := by decide
theorem pw4 : pw 4 = 1208925819614629174706176 := by decide

theorem four {l : List Int} (hd : Dig l) (hl : l.length = 4) : pw 3 * l.getD 3 0 ≤ nv l ∧ nv l < pw 3 * (l.getD 3 0 + 1) := by
  have h1 := nv_take_succ (l := l) (k := 3) (by omega)
  rw [nv_take_all l (by omega)] at h1
  have h2 : Dig (l.take 3) := fun d h => hd d (List.mem_of_mem_take h)
  have h3 := h2.nv_lt
  have h4 := h2.nv_nonneg
  rw [List.length_take, hl] at h3
  have h5 : min 3 4 = 3 := rfl
  rw [h5] at h3
  rw [pw3] at *
  omega

theorem back_neg {z X : Int} (h : z < 0) (hX : X = -z) (h63 : X ≤ 9223372036854775808) : IntKind.i64.wrap (IntKind.u64.wrap (-X)) = z := by
  rw [IntKind.wrap_i64]
  show _ = _
  have : IntKind.u64.wrap (-X) = (-X) % 18446744073709551616 := rfl
  rw [this]
  omega

end Go.Proofs.Ytlbjaimgoiimgaa

namespace Go.Proofs.Ytlbjaimgoiimgaa
open Go.RowKit

theorem sgn_cases (z : Int) : (z < 0 ∧ sgn z = -1 ∧ ab z = -z) ∨ (z = 0 ∧ sgn z = 0 ∧ ab z = 0) ∨ (0 < z ∧ sgn z = 1 ∧ ab z = z) := by
  unfold sgn ab
  rcases Int.lt_trichotomy z 0 with h | h | h
  · exact .inl ⟨h, if_pos h, by omega⟩
  · subst h; exact .inr (.inl ⟨rfl, rfl, rfl⟩)
  · exact .inr (.inr ⟨h, by rw [if_neg (by omega), if_neg (by omega)], by omega⟩)

theorem sum_opp_lt {x t : Int} (h : sgn x * sgn t < 0) (hl : ab x < ab t) : 1 * ab t + -1 * ab x = ab (x + t) ∧ sgn t = sgn (x + t) := by
  rcases sgn_cases x with ⟨a1, a2, a3⟩ | ⟨a1, a2, a3⟩ | ⟨a1, a2, a3⟩ <;> rcases sgn_cases t with ⟨b1, b2, b3⟩ | ⟨b1, b2, b3⟩ | ⟨b1, b2, b3⟩ <;> rcases sgn_cases (x + t) with ⟨c1, c2, c3⟩ | ⟨c1, c2, c3⟩ | ⟨c1, c2, c3⟩ <;> (rw [a2, b2] at h; rw [a3, b3] at hl; rw [a3, b2, b3, c2, c3]; omega)
theorem sum_else {x t : Int} (hx : x ≠ 0) (h : 0 ≤ sgn x * sgn t ∨ ¬ ab x < ab t) : 1 * ab x + sgn x * sgn t * ab t = ab (x + t) ∧ (x + t ≠ 0 → sgn x = sgn (x + t)) := by
  rcases sgn_cases x with ⟨a1, a2, a3⟩ | ⟨a1, a2, a3⟩ | ⟨a1, a2, a3⟩ <;> rcases sgn_cases t with ⟨b1, b2, b3⟩ | ⟨b1, b2, b3⟩ | ⟨b1, b2, b3⟩ <;> rcases sgn_cases (x + t) with ⟨c1, c2, c3⟩ | ⟨c1, c2, c3⟩ | ⟨c1, c2, c3⟩ <;> (rw [a2, b2, a3, b3] at h; rw [a2, a3, b2, b3, c2, c3]; omega)

theorem compare_neg {a b : Int} (h : a < b) : Lib.compareInt a b = -1 := by unfold Lib.compareInt; rw [if_pos h]
theorem compare_nn {a b : Int} (h : ¬ a < b) : 0 ≤ Lib.compareInt a b := by unfold Lib.compareInt; rw [if_neg h]; split <;> omega

set_option maxRecDepth 100000 in
set_option maxHeartbeats 2000000 in
theorem sum_any (x y t : Int) (vx vy : Value) (w : World) (hx : BV w w.heap.size vx x) (hy : BV w w.heap.size vy y) (hx6 : ab x < pw 60) (hy6 : ab y < pw 60) (hyt : ab y = ab t) :
    Calls Try.prog 55 #[vx, vy, .int .i64 (sgn t)] w (ResP (x + t) w) := by
  obtain ⟨A1, c1, rfl, hc1, hm1, hI1⟩ := hx
  obtain ⟨A2, c2, rfl, hc2, hm2, hI2⟩ := hy
  have hl1 := len60 hx6
  have hl2 := len60 hy6
  have hr1 := fun (w' : World) (hb : Below w.heap.size w w') => right_any (sgn x) (D (ab x)) A1 c1 w' ((hI1.below hb).more hb.size) (by omega) true (by simp [rightP_of hx6])
  have hr2 := fun (w' : World) (hb : Below w.heap.size w w') => right_any (sgn y) (D (ab y)) A2 c2 w' ((hI2.below hb).more hb.size) (by omega) true (by simp [rightP_of hy6])
  have hclo := fun (w' : World) (hb : Below w.heap.size w w') => clone_any (D (ab y)) A2 c2 w' ((hI2.below hb).more hb.size) (by omega)
  have hor := fun (w' : World) (hb : Below w.heap.size w w') => order_any (ab x) (ab y) A1 A2 c1 c2 w' w'.heap.size ((hI1.below hb).more hb.size) ((hI2.below hb).more hb.size) (ab_nonneg _) (ab_nonneg _) (by omega) (by omega)
  have hcb1 := fun (p q : Int) (w' : World) (hb : Below w.heap.size w w') => combine_any (D (ab x)) (D (ab y)) A1 A2 c1 c2 p q w' ((hI1.below hb).more hb.size) ((hI2.below hb).more hb.size) (Dig_D _) (Dig_D _) (by omega) (by omega)
  have hcb2 := fun (p q : Int) (w' : World) (hb : Below w.heap.size w w') => combine_any (D (ab y)) (D (ab x)) A2 A1 c2 c1 p q w' ((hI2.below hb).more hb.size) ((hI1.below hb).more hb.size) (Dig_D _) (Dig_D _) (by omega) (by omega)
  rw [nv_D (ab_nonneg _), nv_D (ab_nonneg _)] at hcb1 hcb2
  obtain ⟨n1, hn1⟩ : ∃ n, (D (ab x)).length = n := ⟨_, rfl⟩
  obtain ⟨n2, hn2⟩ : ∃ n, (D (ab y)).length = n := ⟨_, rfl⟩
  rw [hn1] at hr1 hor hcb1 hcb2 hl1 ⊢
  rw [hn2] at hr2 hclo hor hcb1 hcb2 hl2 ⊢
  rw [hyt] at hclo hor hcb1 hcb2 hn2
  have HN2 := Lib.hid hn2; clear hn2
  have hsy := sgn_bd y
  have hsx := sgn_bd x
  have hst := sgn_bd t
  obtain ⟨sy, hsye⟩ : ∃ s, sgn y = s := ⟨_, rfl⟩
  rw [hsye] at hr2 hsy ⊢
  have HR1 := Lib.hid hr1; clear hr1
  have HR2 := Lib.hid hr2; clear hr2
  have HCLO := Lib.hid hclo; clear hclo
  have HOR := Lib.hid hor; clear hor
  have HCB1 := Lib.hid hcb1; clear hcb1
  have HCB2 := Lib.hid hcb2; clear hcb2
  have hat := ab_nonneg t
  have hax := ab_nonneg x
  clear hn1 hsye hI1 hI2 hx6 hy6 hc1 hc2 hyt
  have hms : -1 ≤ sgn x * sgn t ∧ sgn x * sgn t ≤ 1 := by
    rcases sgn_cases x with ⟨_, a, _⟩ | ⟨_, a, _⟩ | ⟨_, a, _⟩ <;> rw [a] <;> omega
  have front : ∀ (sx st : Int) (z : Int), -1 ≤ sx → sx ≤ 1 → -1 ≤ st → st ≤ 1 → sx = sgn x → st = sgn t → z = x + t →
      Calls Try.prog 55 #[.agg #[.int .i64 sx, .slice A1 n1 c1], .agg #[.int .i64 sy, .slice A2 n2 c2], .int .i64 st] w (ResP z w) := by
    intro sx st z hx1 hx2 ht1 ht2 hsxe hste hz
    have HSX := Lib.hid hsxe
    have HST := Lib.hid hste
    have HZ := Lib.hid hz
    clear hz
    rw [← hsxe, ← hste] at hms
    rw [← hsxe] at HR1
    clear hsxe hste hsx hst
    by_cases hx0 : sx = 0
    · have hx00 : x = 0 := by have := HSX.out; rcases sgn_cases x with ⟨_, a, _⟩ | ⟨h, a, _⟩ | ⟨_, a, _⟩ <;> omega
      have hzt : z = t := by rw [HZ.out, hx00]; omega
      have hft := fun A c w' => fitting_any z st A c w' (fun _ => by rw [hzt]; exact HST.out)
      rw [hzt] at hft ⊢
      have HFT := Lib.hid hft; clear hft hzt hx00
      subst hx0
      go_enter Try.func55, Try.ntmps55
      go_wp2_with fail
      obtain ⟨w1, hw1, hb1, k1, k2, k3, hsz⟩ := boxes3 w #[.int .i64 0, .slice A1 n1 c1] #[.int .i64 sy, .slice A2 n2 c2] #[.int .i64 0, .slice none 0 0]
      rw [← hw1]
      clear hw1
      refine (HR1.out w1 hb1).mono ?_
      rintro e w2 ⟨rfl, hb2⟩
      have k1 := k1.below hb2 k1.lt
      have k2 := k2.below hb2 k2.lt
      have k3 := k3.below hb2 k3.lt
      have hs2' := hb2.size
      have hb2 := hb1.trans (hb2.mono hb1.size)
      have j1 : w2.cell? ⟨w.heap.size + 1, 0, none⟩ = some (.int .i64 sy) := k2.cell 0
      have j2 : w2.cell? ⟨w.heap.size + 1, 1, none⟩ = some (.slice A2 n2 c2) := k2.cell 1
      go_wp2_with fail
      refine (HR2.out w2 hb2).mono ?_
      rintro e w3 ⟨rfl, hb3⟩
      clear j1 j2
      have k1 := k1.below hb3 k1.lt
      have k2 := k2.below hb3 k2.lt
      have k3 := k3.below hb3 k3.lt
      have hs3' := hb3.size
      have hb3 := hb2.trans (hb3.mono hb2.size)
      clear hb1 hb2 HR1 HR2
      obtain ⟨g, hg⟩ : ∃ g, w.heap.size + 1 + 1 = g := ⟨_, rfl⟩
      have hgw : w.heap.size + 1 < g ∧ g < w3.heap.size := by have := k3.lt; omega
      rw [hg] at k3 ⊢
      clear hg hsz hs2' hs3'
      have j0 : w3.cell? ⟨w.heap.size, 0, none⟩ = some (.int .i64 0) := k1.cell 0
      have j1 : w3.cell? ⟨w.heap.size, 1, none⟩ = some (.slice A1 n1 c1) := k1.cell 1
      have j2 : w3.cell? ⟨w.heap.size + 1, 0, none⟩ = some (.int .i64 sy) := k2.cell 0
      have j3 : w3.cell? ⟨w.heap.size + 1, 1, none⟩ = some (.slice A2 n2 c2) := k2.cell 1
      go_wp2_with fail
      (with_reducible refine (HCLO.out w3 hb3).mono ?_)
      rintro e w4 ⟨v4, rfl, hown4, hb4⟩
      obtain ⟨A4, c4, rfl, hc4, hm4, hI4⟩ := hown4.at_
      go_wp2_with fail
      (with_reducible refine (HFT.out _ _ _).mono ?_)
      rintro e w5 ⟨r, rfl, hr, hb5⟩
      have HR := Lib.hid hr
      obtain ⟨s', A', n', c', rfl⟩ := hr.form
      clear hr
      have hB5 : Below w3.heap.size w3 w5 := hb4.trans (hb5.mono hb4.size)
      have hbk := k3.below hB5 (by omega)
      have q0 : w5.cell? ⟨g, 0, none⟩ = some (.int .i64 0) := hbk.cell 0
      have q1 : w5.cell? ⟨g, 1, none⟩ = some (.slice none 0 0) := hbk.cell 1
      have f0 := hbk.frozen 0
      have f1 := hbk.frozen 1
      have hB6 := ((hB5.mono (B' := g) (by omega)).setCell (p := ⟨g, 0, none⟩) (Nat.le_refl _) (.int .i64 s')).setCell (p := ⟨g, 1, none⟩) (Nat.le_refl _) (.slice A' n' c')
      have hbs := hbk.set2 (.int .i64 s') (.slice A' n' c')
      have hd0 := hbs.cell 0
      have hd1 := hbs.cell 1
      simp at hd0 hd1
      go_wp2_with fail
      refine bodyPost_ret (v := .tuple #[.agg #[.int .i64 s', .slice A' n' c'], .int .i64 (fite t)]) (by simp [results, Try.results55, go_sem, hd0, hd1]) rfl ?_
      have hof := (hown4.below hb5).far2 (g := g) (by first | omega | (simp; omega)) (.int .i64 s') (.slice A' n' c')
      exact ⟨_, rfl, HR.out.fito (hof.mono (by have := hb3.size; first | omega | (simp; omega))), hb3.trans (hB6.mono (by omega))⟩
    · have hx00 : x ≠ 0 := by have := HSX.out; rcases sgn_cases x with ⟨_, a, _⟩ | ⟨h, a, _⟩ | ⟨_, a, _⟩ <;> omega
      have hsx0 : (sx == 0) = false := by simpa using hx0
      by_cases hp : sx * st < 0 ∧ ab x < ab t
      · have hlt := hp.2
        have hp := hp.1
        have ⟨hv, hsg⟩ := sum_opp_lt (x := x) (t := t) (by rw [← HSX.out, ← HST.out]; exact hp) hlt
        have hcb := fun (w' : World) (hb : Below w.heap.size w w') => HCB2.out 1 (-1) w' hb (by omega) (by omega) (by omega) (by omega) (by rw [hv]; exact ab_nonneg _)
        have hft := fun A c w' => fitting_any z st A c w' (fun _ => by rw [HZ.out, ← hsg]; exact HST.out)
        rw [hv, ← HZ.out] at hcb
        have HCB := Lib.hid hcb; clear hcb hv hsg
        have HFT := Lib.hid hft; clear hft
        have hcmp := compare_neg hlt
        have hor := fun (w' : World) (hb : Below w.heap.size w w') => HOR.out w' hb
        rw [hcmp] at hor
        have HO := Lib.hid hor; clear hor hcmp HOR
        go_enter Try.func55, Try.ntmps55
        go_wp2_with fail
        obtain ⟨w1, hw1, hb1, k1, k2, k3, hsz⟩ := boxes3 w #[.int .i64 sx, .slice A1 n1 c1] #[.int .i64 sy, .slice A2 n2 c2] #[.int .i64 0, .slice none 0 0]
        rw [← hw1]
        clear hw1
        refine (HR1.out w1 hb1).mono ?_
        rintro e w2 ⟨rfl, hb2⟩
        have k1 := k1.below hb2 k1.lt
        have k2 := k2.below hb2 k2.lt
        have k3 := k3.below hb2 k3.lt
        have hs2' := hb2.size
        have hb2 := hb1.trans (hb2.mono hb1.size)
        have j1 : w2.cell? ⟨w.heap.size + 1, 0, none⟩ = some (.int .i64 sy) := k2.cell 0
        have j2 : w2.cell? ⟨w.heap.size + 1, 1, none⟩ = some (.slice A2 n2 c2) := k2.cell 1
        go_wp2_with fail
        refine (HR2.out w2 hb2).mono ?_
        rintro e w3 ⟨rfl, hb3⟩
        clear j1 j2
        have k1 := k1.below hb3 k1.lt
        have k2 := k2.below hb3 k2.lt
        have k3 := k3.below hb3 k3.lt
        have hs3' := hb3.size
        have hb3 := hb2.trans (hb3.mono hb2.size)
        clear hb1 hb2 HR1 HR2
        obtain ⟨g, hg⟩ : ∃ g, w.heap.size + 1 + 1 = g := ⟨_, rfl⟩
        have hgw : w.heap.size + 1 < g ∧ g < w3.heap.size := by have := k3.lt; omega
        rw [hg] at k3 ⊢
        clear hg hsz hs2' hs3'
        have j0 : w3.cell? ⟨w.heap.size, 0, none⟩ = some (.int .i64 sx) := k1.cell 0
        have j1 : w3.cell? ⟨w.heap.size, 1, none⟩ = some (.slice A1 n1 c1) := k1.cell 1
        have j2 : w3.cell? ⟨w.heap.size + 1, 0, none⟩ = some (.int .i64 sy) := k2.cell 0
        have j3 : w3.cell? ⟨w.heap.size + 1, 1, none⟩ = some (.slice A2 n2 c2) := k2.cell 1
        go_wp2_with fail
        (with_reducible refine (HO.out w3 hb3).mono ?_)
        rintro e w3' ⟨rfl, q, rfl⟩
        go_wp2_with fail
        (with_reducible refine (HCB.out _ (below_drewN hb3 _)).mono ?_)
        rintro e w4 ⟨v4, rfl, hown4, hb4⟩
        have hB4 : Below w3.heap.size w3 w4 := ⟨hb4.os, hb4.tape, hb4.output, hb4.size, hb4.block⟩
        obtain ⟨A4, c4, rfl, hc4, hm4, hI4⟩ := hown4.at_
        go_wp2_with fail
        (with_reducible refine (HFT.out _ _ _).mono ?_)
        rintro e w5 ⟨r, rfl, hr, hb5⟩
        have HR := Lib.hid hr
        obtain ⟨s', A', n', c', rfl⟩ := hr.form
        clear hr
        have hB5 : Below w3.heap.size w3 w5 := hB4.trans (hb5.mono hB4.size)
        have hbk := k3.below hB5 (by omega)
        have q0 : w5.cell? ⟨g, 0, none⟩ = some (.int .i64 0) := hbk.cell 0
        have q1 : w5.cell? ⟨g, 1, none⟩ = some (.slice none 0 0) := hbk.cell 1
        have f0 := hbk.frozen 0
        have f1 := hbk.frozen 1
        have hB6 := ((hB5.mono (B' := g) (by omega)).setCell (p := ⟨g, 0, none⟩) (Nat.le_refl _) (.int .i64 s')).setCell (p := ⟨g, 1, none⟩) (Nat.le_refl _) (.slice A' n' c')
        have hbs := hbk.set2 (.int .i64 s') (.slice A' n' c')
        have hd0 := hbs.cell 0
        have hd1 := hbs.cell 1
        simp at hd0 hd1
        go_wp2_with fail
        refine bodyPost_ret (v := .tuple #[.agg #[.int .i64 s', .slice A' n' c'], .int .i64 (fite z)]) (by simp [results, Try.results55, go_sem, hd0, hd1]) rfl ?_
        have hof := (hown4.below hb5).far2 (g := g) (by first | omega | (simp; omega)) (.int .i64 s') (.slice A' n' c')
        exact ⟨_, rfl, HR.out.fito (hof.mono (by have := hb3.size; first | omega | (simp; omega))), hb3.trans (hB6.mono (by omega))⟩
      · by_cases hneg : sx * st < 0
        · have hnl : ¬ ab x < ab t := fun h => hp ⟨hneg, h⟩
          clear hp
          have ⟨hv, hsg⟩ := sum_else (x := x) (t := t) hx00 (by rw [← HSX.out, ← HST.out]; exact (.inr hnl))
          rw [← HSX.out, ← HST.out] at hv
          have hcb := fun (w' : World) (hb : Below w.heap.size w w') => HCB1.out 1 (sx * st) w' hb (by omega) (by omega) (by omega) (by omega) (by rw [hv]; exact ab_nonneg _)
          have hft := fun A c w' => fitting_any z sx A c w' (fun h => by rw [HZ.out] at h ⊢; rw [← hsg h]; exact HSX.out)
          rw [hv, ← HZ.out] at hcb
          have HCB := Lib.hid hcb; clear hcb hv hsg
          have HFT := Lib.hid hft; clear hft
          have hcmp := compare_nn hnl
          obtain ⟨cz, hcz⟩ : ∃ z, Lib.compareInt (ab x) (ab t) = z := ⟨_, rfl⟩
          have hor := fun (w' : World) (hb : Below w.heap.size w w') => HOR.out w' hb
          rw [hcz] at hor hcmp
          have HO := Lib.hid hor; clear hor hcz HOR
          go_enter Try.func55, Try.ntmps55
          go_wp2_with fail
          obtain ⟨w1, hw1, hb1, k1, k2, k3, hsz⟩ := boxes3 w #[.int .i64 sx, .slice A1 n1 c1] #[.int .i64 sy, .slice A2 n2 c2] #[.int .i64 0, .slice none 0 0]
          rw [← hw1]
          clear hw1
          refine (HR1.out w1 hb1).mono ?_
          rintro e w2 ⟨rfl, hb2⟩
          have k1 := k1.below hb2 k1.lt
          have k2 := k2.below hb2 k2.lt
          have k3 := k3.below hb2 k3.lt
          have hs2' := hb2.size
          have hb2 := hb1.trans (hb2.mono hb1.size)
          have j1 : w2.cell? ⟨w.heap.size + 1, 0, none⟩ = some (.int .i64 sy) := k2.cell 0
          have j2 : w2.cell? ⟨w.heap.size + 1, 1, none⟩ = some (.slice A2 n2 c2) := k2.cell 1
          go_wp2_with fail
          refine (HR2.out w2 hb2).mono ?_
          rintro e w3 ⟨rfl, hb3⟩
          clear j1 j2
          have k1 := k1.below hb3 k1.lt
          have k2 := k2.below hb3 k2.lt
          have k3 := k3.below hb3 k3.lt
          have hs3' := hb3.size
          have hb3 := hb2.trans (hb3.mono hb2.size)
          clear hb1 hb2 HR1 HR2
          obtain ⟨g, hg⟩ : ∃ g, w.heap.size + 1 + 1 = g := ⟨_, rfl⟩
          have hgw : w.heap.size + 1 < g ∧ g < w3.heap.size := by have := k3.lt; omega
          rw [hg] at k3 ⊢
          clear hg hsz hs2' hs3'
          have j0 : w3.cell? ⟨w.heap.size, 0, none⟩ = some (.int .i64 sx) := k1.cell 0
          have j1 : w3.cell? ⟨w.heap.size, 1, none⟩ = some (.slice A1 n1 c1) := k1.cell 1
          have j2 : w3.cell? ⟨w.heap.size + 1, 0, none⟩ = some (.int .i64 sy) := k2.cell 0
          have j3 : w3.cell? ⟨w.heap.size + 1, 1, none⟩ = some (.slice A2 n2 c2) := k2.cell 1
          have e0 : ∀ W' : World, Below g w3 W' → W'.cell? ⟨w.heap.size, 0, none⟩ = some (.int .i64 sx) ∧ W'.cell? ⟨w.heap.size, 1, none⟩ = some (.slice A1 n1 c1) ∧ W'.cell? ⟨w.heap.size + 1, 0, none⟩ = some (.int .i64 sy) ∧ W'.cell? ⟨w.heap.size + 1, 1, none⟩ = some (.slice A2 n2 c2) ∧ Below g w3 W' := fun W' hW =>
            ⟨(k1.below hW (by omega)).cell 0, (k1.below hW (by omega)).cell 1, (k2.below hW (by omega)).cell 0, (k2.below hW (by omega)).cell 1, hW⟩
          have E0 := Lib.hid e0; clear e0
          have hwm : IntKind.i64.wrap (sx * st) = sx * st := IntWalk.i64_in _ (by omega)
          go_wp2_with fail
          (with_reducible refine (HO.out w3 hb3).mono ?_)
          rintro e w3' ⟨rfl, q, rfl⟩
          have hB00 : Below g w3 (w3.drewN q) := below_drewN (Below.refl _ _) q
          have hB01 : Below w3.heap.size w3 (w3.drewN q) := below_drewN (Below.refl _ _) q
          go_wp2_with fail
          go_region_held3 (fun W' => W'.cell? ⟨w.heap.size, 0, none⟩ = some (.int .i64 sx) ∧ W'.cell? ⟨w.heap.size, 1, none⟩ = some (.slice A1 n1 c1) ∧ W'.cell? ⟨w.heap.size + 1, 0, none⟩ = some (.int .i64 sy) ∧ W'.cell? ⟨w.heap.size + 1, 1, none⟩ = some (.slice A2 n2 c2) ∧ Below g w3 W')
            (first | exact E0.out _ (by assumption) | exact E0.out _ ⟨rfl, rfl, rfl, Nat.le_refl _, fun _ _ => rfl⟩)
            (first
              | (go_at_call 76; refine (HCB.out (w3.drewN (q + 1)) ⟨hb3.os, hb3.tape, hb3.output, hb3.size, hb3.block⟩).mono ?_; rintro e w4 ⟨v4, rfl, hown4, hb4⟩; have hB4 : Below w3.heap.size w3 w4 := ⟨hb4.os, hb4.tape, hb4.output, hb4.size, hb4.block⟩; have hB4g : Below g w3 w4 := hB4.mono (by omega); obtain ⟨A4, c4, rfl, hc4, hm4, hI4⟩ := hown4.at_)
              | (go_at_call 72; refine (HFT.out _ _ _).mono ?_; rintro e w5 ⟨r, rfl, hr, hb5⟩; have HR := Lib.hid hr; obtain ⟨s', A', n', c', rfl⟩ := hr.form; clear hr; have hB5 : Below w3.heap.size w3 w5 := hB4.trans (hb5.mono hB4.size); have hB5g : Below g w3 w5 := hB5.mono (by omega); have hbk := k3.below hB5 (by omega); have q0 : w5.cell? ⟨g, 0, none⟩ = some (.int .i64 0) := hbk.cell 0; have q1 : w5.cell? ⟨g, 1, none⟩ = some (.slice none 0 0) := hbk.cell 1; have f0 := hbk.frozen 0; have f1 := hbk.frozen 1; have hB6 := (hB5g.setCell (p := ⟨g, 0, none⟩) (Nat.le_refl _) (.int .i64 s')).setCell (p := ⟨g, 1, none⟩) (Nat.le_refl _) (.slice A' n' c')))
          have hbs := hbk.set2 (.int .i64 s') (.slice A' n' c')
          have hd0 := hbs.cell 0
          have hd1 := hbs.cell 1
          simp at hd0 hd1
          go_wp2_with fail
          refine bodyPost_ret (v := .tuple #[.agg #[.int .i64 s', .slice A' n' c'], .int .i64 (fite z)]) (by simp [results, Try.results55, go_sem, hd0, hd1]) rfl ?_
          have hof := (hown4.below hb5).far2 (g := g) (by first | omega | (simp; omega)) (.int .i64 s') (.slice A' n' c')
          exact ⟨_, rfl, HR.out.fito (hof.mono (by have := hb3.size; first | omega | (simp; omega))), hb3.trans (hB6.mono (by omega))⟩
        · have hnn : 0 ≤ sx * st := by omega
          clear hp
          have ⟨hv, hsg⟩ := sum_else (x := x) (t := t) hx00 (by rw [← HSX.out, ← HST.out]; exact (.inl hnn))
          rw [← HSX.out, ← HST.out] at hv
          have hcb := fun (w' : World) (hb : Below w.heap.size w w') => HCB1.out 1 (sx * st) w' hb (by omega) (by omega) (by omega) (by omega) (by rw [hv]; exact ab_nonneg _)
          have hft := fun A c w' => fitting_any z sx A c w' (fun h => by rw [HZ.out] at h ⊢; rw [← hsg h]; exact HSX.out)
          rw [hv, ← HZ.out] at hcb
          have HCB := Lib.hid hcb; clear hcb hv hsg
          have HFT := Lib.hid hft; clear hft
          clear HOR
          go_enter Try.func55, Try.ntmps55
          go_wp2_with fail
          obtain ⟨w1, hw1, hb1, k1, k2, k3, hsz⟩ := boxes3 w #[.int .i64 sx, .slice A1 n1 c1] #[.int .i64 sy, .slice A2 n2 c2] #[.int .i64 0, .slice none 0 0]
          rw [← hw1]
          clear hw1
          refine (HR1.out w1 hb1).mono ?_
          rintro e w2 ⟨rfl, hb2⟩
          have k1 := k1.below hb2 k1.lt
          have k2 := k2.below hb2 k2.lt
          have k3 := k3.below hb2 k3.lt
          have hs2' := hb2.size
          have hb2 := hb1.trans (hb2.mono hb1.size)
          have j1 : w2.cell? ⟨w.heap.size + 1, 0, none⟩ = some (.int .i64 sy) := k2.cell 0
          have j2 : w2.cell? ⟨w.heap.size + 1, 1, none⟩ = some (.slice A2 n2 c2) := k2.cell 1
          go_wp2_with fail
          refine (HR2.out w2 hb2).mono ?_
          rintro e w3 ⟨rfl, hb3⟩
          clear j1 j2
          have k1 := k1.below hb3 k1.lt
          have k2 := k2.below hb3 k2.lt
          have k3 := k3.below hb3 k3.lt
          have hs3' := hb3.size
          have hb3 := hb2.trans (hb3.mono hb2.size)
          clear hb1 hb2 HR1 HR2
          obtain ⟨g, hg⟩ : ∃ g, w.heap.size + 1 + 1 = g := ⟨_, rfl⟩
          have hgw : w.heap.size + 1 < g ∧ g < w3.heap.size := by have := k3.lt; omega
          rw [hg] at k3 ⊢
          clear hg hsz hs2' hs3'
          have j0 : w3.cell? ⟨w.heap.size, 0, none⟩ = some (.int .i64 sx) := k1.cell 0
          have j1 : w3.cell? ⟨w.heap.size, 1, none⟩ = some (.slice A1 n1 c1) := k1.cell 1
          have j2 : w3.cell? ⟨w.heap.size + 1, 0, none⟩ = some (.int .i64 sy) := k2.cell 0
          have j3 : w3.cell? ⟨w.heap.size + 1, 1, none⟩ = some (.slice A2 n2 c2) := k2.cell 1
          have e0 : ∀ W' : World, Below g w3 W' → W'.cell? ⟨w.heap.size, 0, none⟩ = some (.int .i64 sx) ∧ W'.cell? ⟨w.heap.size, 1, none⟩ = some (.slice A1 n1 c1) ∧ W'.cell? ⟨w.heap.size + 1, 0, none⟩ = some (.int .i64 sy) ∧ W'.cell? ⟨w.heap.size + 1, 1, none⟩ = some (.slice A2 n2 c2) ∧ Below g w3 W' := fun W' hW =>
            ⟨(k1.below hW (by omega)).cell 0, (k1.below hW (by omega)).cell 1, (k2.below hW (by omega)).cell 0, (k2.below hW (by omega)).cell 1, hW⟩
          have E0 := Lib.hid e0; clear e0
          have hwm : IntKind.i64.wrap (sx * st) = sx * st := IntWalk.i64_in _ (by omega)
          have hB00 : Below g w3 w3.drew := (Below.refl _ _).drew
          have hB01 : Below w3.heap.size w3 w3.drew := (Below.refl _ _).drew
          go_wp2_with fail
          go_region_held3 (fun W' => W'.cell? ⟨w.heap.size, 0, none⟩ = some (.int .i64 sx) ∧ W'.cell? ⟨w.heap.size, 1, none⟩ = some (.slice A1 n1 c1) ∧ W'.cell? ⟨w.heap.size + 1, 0, none⟩ = some (.int .i64 sy) ∧ W'.cell? ⟨w.heap.size + 1, 1, none⟩ = some (.slice A2 n2 c2) ∧ Below g w3 W')
            (first | exact E0.out _ (by assumption) | exact E0.out _ ⟨rfl, rfl, rfl, Nat.le_refl _, fun _ _ => rfl⟩)
            (first
              | (go_at_call 76; refine (HCB.out w3.drew ⟨hb3.os, hb3.tape, hb3.output, hb3.size, hb3.block⟩).mono ?_; rintro e w4 ⟨v4, rfl, hown4, hb4⟩; have hB4 : Below w3.heap.size w3 w4 := ⟨hb4.os, hb4.tape, hb4.output, hb4.size, hb4.block⟩; have hB4g : Below g w3 w4 := hB4.mono (by omega); obtain ⟨A4, c4, rfl, hc4, hm4, hI4⟩ := hown4.at_)
              | (go_at_call 72; refine (HFT.out _ _ _).mono ?_; rintro e w5 ⟨r, rfl, hr, hb5⟩; have HR := Lib.hid hr; obtain ⟨s', A', n', c', rfl⟩ := hr.form; clear hr; have hB5 : Below w3.heap.size w3 w5 := hB4.trans (hb5.mono hB4.size); have hB5g : Below g w3 w5 := hB5.mono (by omega); have hbk := k3.below hB5 (by omega); have q0 : w5.cell? ⟨g, 0, none⟩ = some (.int .i64 0) := hbk.cell 0; have q1 : w5.cell? ⟨g, 1, none⟩ = some (.slice none 0 0) := hbk.cell 1; have f0 := hbk.frozen 0; have f1 := hbk.frozen 1; have hB6 := (hB5g.setCell (p := ⟨g, 0, none⟩) (Nat.le_refl _) (.int .i64 s')).setCell (p := ⟨g, 1, none⟩) (Nat.le_refl _) (.slice A' n' c')))
          have hbs := hbk.set2 (.int .i64 s') (.slice A' n' c')
          have hd0 := hbs.cell 0
          have hd1 := hbs.cell 1
          simp at hd0 hd1
          go_wp2_with fail
          refine bodyPost_ret (v := .tuple #[.agg #[.int .i64 s', .slice A' n' c'], .int .i64 (fite z)]) (by simp [results, Try.results55, go_sem, hd0, hd1]) rfl ?_
          have hof := (hown4.below hb5).far2 (g := g) (by first | omega | (simp; omega)) (.int .i64 s') (.slice A' n' c')
          exact ⟨_, rfl, HR.out.fito (hof.mono (by have := hb3.size; first | omega | (simp; omega))), hb3.trans (hB6.mono (by omega))⟩
  exact front (sgn x) (sgn t) (x + t) hsx.1 hsx.2 hst.1 hst.2 rfl rfl rfl

end Go.Proofs.Ytlbjaimgoiimgaa

namespace Go.Proofs.Ytlbjaimgoiimgaa
open Go.RowKit

theorem compare_sgn {x y : Int} (h : sgn x ≠ sgn y) : Lib.compareInt (sgn x) (sgn y) = Lib.compareInt x y := by
  unfold Lib.compareInt
  rcases sgn_cases x with ⟨a1, a2, a3⟩ | ⟨a1, a2, a3⟩ | ⟨a1, a2, a3⟩ <;> rcases sgn_cases y with ⟨b1, b2, b3⟩ | ⟨b1, b2, b3⟩ | ⟨b1, b2, b3⟩ <;> rw [a2, b2] at h ⊢ <;> first | (exact absurd rfl h) | skip
  all_goals
    repeat (first | rw [if_pos (by omega)] | rw [if_neg (by omega)])
theorem compare_ab {x y : Int} (h : sgn x = sgn y) : sgn x * Lib.compareInt (ab x) (ab y) = Lib.compareInt x y := by
  unfold Lib.compareInt
  rcases sgn_cases x with ⟨a1, a2, a3⟩ | ⟨a1, a2, a3⟩ | ⟨a1, a2, a3⟩ <;> rcases sgn_cases y with ⟨b1, b2, b3⟩ | ⟨b1, b2, b3⟩ | ⟨b1, b2, b3⟩ <;> rw [a2, b2] at h <;> first | (exfalso; omega) | (rw [a2, a3, b3])
  · rcases Int.lt_trichotomy x y with h | h | h
    · rw [if_neg (by omega), if_pos (by omega), if_pos h]; rfl
    · rw [if_neg (by omega), if_neg (by omega), if_neg (by omega), if_neg (by omega)]; rfl
    · rw [if_pos (by omega), if_neg (by omega), if_pos (by omega)]; rfl
  · subst a1; subst b1; rfl
  · rw [Int.one_mul]
theorem compare_bd (x y : Int) : -1 ≤ Lib.compareInt x y ∧ Lib.compareInt x y ≤ 1 := by unfold Lib.compareInt; split <;> (try split) <;> omega

set_option maxRecDepth 100000 in
set_option maxHeartbeats 2000000 in
theorem compare_any (x y : Int) (vx vy : Value) (w : World) (hx : BV w w.heap.size vx x) (hy : BV w w.heap.size vy y) (hx6 : ab x < pw 60) (hy6 : ab y < pw 60) :
    Calls Try.prog 82 #[vx, vy] w fun e w' => e = .returned (.int .i64 (Lib.compareInt x y)) ∧ Below w.heap.size w w' := by
  obtain ⟨A1, c1, rfl, hc1, hm1, hI1⟩ := hx
  obtain ⟨A2, c2, rfl, hc2, hm2, hI2⟩ := hy
  have hl1 := len60 hx6
  have hl2 := len60 hy6
  have hr1 := fun (w' : World) (hb : Below w.heap.size w w') => right_any (sgn x) (D (ab x)) A1 c1 w' ((hI1.below hb).more hb.size) (by omega) true (by simp [rightP_of hx6])
  have hr2 := fun (w' : World) (hb : Below w.heap.size w w') => right_any (sgn y) (D (ab y)) A2 c2 w' ((hI2.below hb).more hb.size) (by omega) true (by simp [rightP_of hy6])
  have hor := fun (w' : World) (hb : Below w.heap.size w w') => order_any (ab x) (ab y) A1 A2 c1 c2 w' w'.heap.size ((hI1.below hb).more hb.size) ((hI2.below hb).more hb.size) (ab_nonneg _) (ab_nonneg _) (by omega) (by omega)
  have hcs := fun h => compare_sgn (x := x) (y := y) h
  have hca := fun h => compare_ab (x := x) (y := y) h
  obtain ⟨n1, hn1⟩ : ∃ n, (D (ab x)).length = n := ⟨_, rfl⟩
  obtain ⟨n2, hn2⟩ : ∃ n, (D (ab y)).length = n := ⟨_, rfl⟩
  rw [hn1] at hr1 hor ⊢
  rw [hn2] at hr2 hor ⊢
  obtain ⟨s1, hs1e⟩ : ∃ s, sgn x = s := ⟨_, rfl⟩
  obtain ⟨s2, hs2e⟩ : ∃ s, sgn y = s := ⟨_, rfl⟩
  have hs1 := sgn_bd x
  rw [hs1e] at hr1 hcs hca hs1 ⊢
  rw [hs2e] at hr2 hcs hca ⊢
  have hcb := compare_bd (ab x) (ab y)
  obtain ⟨cz, hcz⟩ : ∃ z, Lib.compareInt (ab x) (ab y) = z := ⟨_, rfl⟩
  rw [hcz] at hor hca hcb
  have HR1 := Lib.hid hr1; clear hr1
  have HR2 := Lib.hid hr2; clear hr2
  have HOR := Lib.hid hor; clear hor
  have HCS := Lib.hid hcs; clear hcs
  have HCA := Lib.hid hca; clear hca
  clear hn1 hn2 hs1e hs2e hI1 hI2 hx6 hy6 hc1 hc2 hcz
  by_cases hss : s1 = s2
  · subst hss
    have hfin := HCA.out rfl
    have HF := Lib.hid hfin; clear hfin
    have hwm : IntKind.i64.wrap (s1 * cz) = s1 * cz := IntWalk.i64_in _ (by
      have a : s1 = -1 ∨ s1 = 0 ∨ s1 = 1 := by omega
      rcases a with rfl | rfl | rfl <;> omega)
    go_enter Try.func82, Try.ntmps82
    go_wp2_with fail
    obtain ⟨w1, hw1, hb1, k1, k2, hsz⟩ := boxes2 w #[.int .i64 s1, .slice A1 n1 c1] #[.int .i64 s1, .slice A2 n2 c2]
    rw [← hw1]
    clear hw1
    (with_reducible refine (HR1.out w1 hb1).mono ?_)
    rintro e w2 ⟨rfl, hb2⟩
    have k1 := k1.below hb2 k1.lt
    have k2 := k2.below hb2 k2.lt
    have hb2 := hb1.trans (hb2.mono hb1.size)
    have j1 : w2.cell? ⟨w.heap.size + 1, 0, none⟩ = some (.int .i64 s1) := k2.cell 0
    have j2 : w2.cell? ⟨w.heap.size + 1, 1, none⟩ = some (.slice A2 n2 c2) := k2.cell 1
    go_wp2_with fail
    (with_reducible refine (HR2.out w2 hb2).mono ?_)
    rintro e w3 ⟨rfl, hb3⟩
    clear j1 j2
    have k1 := k1.below hb3 k1.lt
    have k2 := k2.below hb3 k2.lt
    have hb3 := hb2.trans (hb3.mono hb2.size)
    have j0 : w3.cell? ⟨w.heap.size, 0, none⟩ = some (.int .i64 s1) := k1.cell 0
    have j1 : w3.cell? ⟨w.heap.size, 1, none⟩ = some (.slice A1 n1 c1) := k1.cell 1
    have j2 : w3.cell? ⟨w.heap.size + 1, 0, none⟩ = some (.int .i64 s1) := k2.cell 0
    have j3 : w3.cell? ⟨w.heap.size + 1, 1, none⟩ = some (.slice A2 n2 c2) := k2.cell 1
    go_wp2_with fail
    go_quiet ((go_at_call 67; exact Calls.quiet_of (HOR.out _ (below_drewN hb3 _))))
    go_wp2_with fail
    go_ret
    exact ⟨by rw [← HF.out]; rfl, below_drewN hb3 _⟩
  · have hfin := HCS.out hss
    have HF := Lib.hid hfin; clear hfin
    have hne : (s1 != s2) = true := by simpa using hss
    go_enter Try.func82, Try.ntmps82
    go_wp2_with fail
    obtain ⟨w1, hw1, hb1, k1, k2, hsz⟩ := boxes2 w #[.int .i64 s1, .slice A1 n1 c1] #[.int .i64 s2, .slice A2 n2 c2]
    rw [← hw1]
    clear hw1
    (with_reducible refine (HR1.out w1 hb1).mono ?_)
    rintro e w2 ⟨rfl, hb2⟩
    have k1 := k1.below hb2 k1.lt
    have k2 := k2.below hb2 k2.lt
    have hb2 := hb1.trans (hb2.mono hb1.size)
    have j1 : w2.cell? ⟨w.heap.size + 1, 0, none⟩ = some (.int .i64 s2) := k2.cell 0
    have j2 : w2.cell? ⟨w.heap.size + 1, 1, none⟩ = some (.slice A2 n2 c2) := k2.cell 1
    go_wp2_with fail
    (with_reducible refine (HR2.out w2 hb2).mono ?_)
    rintro e w3 ⟨rfl, hb3⟩
    clear j1 j2
    have k1 := k1.below hb3 k1.lt
    have k2 := k2.below hb3 k2.lt
    have hb3 := hb2.trans (hb3.mono hb2.size)
    have j0 : w3.cell? ⟨w.heap.size, 0, none⟩ = some (.int .i64 s1) := k1.cell 0
    have j2 : w3.cell? ⟨w.heap.size + 1, 0, none⟩ = some (.int .i64 s2) := k2.cell 0
    go_wp2_with fail
    (with_reducible refine (Try.cmp_Compare_int _ _ _).mono ?_)
    rintro e w4 ⟨rfl, rfl⟩
    go_wp2_with fail
    go_ret
    exact ⟨by rw [← HF.out]; rfl, hb3⟩

/-- Two big integers are the same just where they are one. -/
theorem same_iff {x y : Int} : (sgn x = sgn y ∧ D (ab x) = D (ab y)) ↔ x = y := by
  constructor
  · rintro ⟨h1, h2⟩
    have h3 := D_inj (ab_nonneg x) (ab_nonneg y) h2
    have e1 := sgn_ab x
    have e2 := sgn_ab y
    rw [h1, h3] at e1
    omega
  · rintro rfl; exact ⟨rfl, rfl⟩

set_option maxRecDepth 100000 in
set_option maxHeartbeats 1000000 in
theorem same_any (x y : Int) (vx vy : Value) (w : World) (hx : BV w w.heap.size vx x) (hy : BV w w.heap.size vy y) :
    Calls Try.prog 34 #[vx, vy] w fun e w' => e = .returned (.bool (decide (x = y))) ∧ Below w.heap.size w w' := by
  obtain ⟨A1, c1, rfl, hc1, hm1, hI1⟩ := hx
  obtain ⟨A2, c2, rfl, hc2, hm2, hI2⟩ := hy
  have heq := fun (w' : World) (hb : Below w.heap.size w w') => equal_any (D (ab x)) (D (ab y)) A1 A2 c1 c2 w.heap.size w' (hI1.below hb) (hI2.below hb) (by omega) (by omega)
  have hres : ∀ b : Bool, (sgn x = sgn y → b = decide (D (ab x) = D (ab y))) → (sgn x ≠ sgn y → b = false) → b = decide (x = y) := by
    intro b h1 h2
    by_cases hs : sgn x = sgn y
    · rw [h1 hs, decide_eq_decide]
      exact ⟨fun h => same_iff.1 ⟨hs, h⟩, fun h => (same_iff.2 h).2⟩
    · rw [h2 hs]
      symm
      rw [decide_eq_false_iff_not]
      exact fun h => hs (same_iff.2 h).1
  have hbx : Below w.heap.size w ((w.alloc (.cells #[.int .i64 (sgn x), .slice A1 (D (ab x)).length c1] 38)).alloc (.cells #[.int .i64 (sgn y), .slice A2 (D (ab y)).length c2] 38)) := ((Below.refl _ _).alloc (Nat.le_refl _) _).alloc (by simp) _
  obtain ⟨dd, hdd⟩ : ∃ b, decide (D (ab x) = D (ab y)) = b := ⟨_, rfl⟩
  rw [hdd] at heq hres
  obtain ⟨n1, hn1⟩ : ∃ n, (D (ab x)).length = n := ⟨_, rfl⟩
  obtain ⟨n2, hn2⟩ : ∃ n, (D (ab y)).length = n := ⟨_, rfl⟩
  rw [hn1, hn2] at heq hbx
  rw [hn1, hn2]
  obtain ⟨s1, hs1e⟩ : ∃ s, sgn x = s := ⟨_, rfl⟩
  obtain ⟨s2, hs2e⟩ : ∃ s, sgn y = s := ⟨_, rfl⟩
  rw [hs1e, hs2e] at hres hbx
  rw [hs1e, hs2e]
  have HE := Lib.hid heq; clear heq
  have HRS := Lib.hid hres; clear hres
  have HBX := Lib.hid hbx; clear hbx
  clear hn1 hn2 hs1e hs2e hI1 hI2 hc1 hc2 hdd
  by_cases hss : s1 = s2
  · have hfin := HRS.out dd (fun _ => rfl) (fun h => absurd hss h)
    subst hss
    rw [← hfin]
    clear hfin
    go_enter Try.func34, Try.ntmps34
    go_wp2_with fail
    (with_reducible refine (HE.out _ HBX.out).mono ?_)
    rintro e w4 ⟨rfl, q, rfl⟩
    go_wp2_with fail
    go_ret
    exact ⟨rfl, below_drewN HBX.out _⟩
  · have hfin := HRS.out false (fun h => absurd h hss) (fun _ => rfl)
    have hb : (s1 == s2) = false := by simpa using hss
    rw [← hfin]
    clear hfin
    go_enter Try.func34, Try.ntmps34
    go_wp2_with fail
    go_ret
    exact ⟨rfl, HBX.out⟩

/-- The reference's Same, at big integers that are right. -/
theorem refSame_len {x y : Int} (h : (D (ab x)).length ≠ (D (ab y)).length) : decide (x = y) = false := by
  rw [decide_eq_false_iff_not]; rintro rfl; exact h rfl
theorem refSame_sgn {x y : Int} (h : sgn x ≠ sgn y) : decide (x = y) = false := by
  rw [decide_eq_false_iff_not]; rintro rfl; exact h rfl

end Go.Proofs.Ytlbjaimgoiimgaa

namespace Go.Proofs.Ytlbjaimgoiimgaa
open Go.RowKit

end Go.Proofs.Ytlbjaimgoiimgaa

namespace Go.Proofs.Ytlbjaimgoiimgaa
open Go.RowKit

set_option maxRecDepth 100000 in
set_option maxHeartbeats 1000000 in
theorem neg_any (x : Int) (vx : Value) (w : World) (hx : BV w w.heap.size vx x) (hx6 : ab x < pw 60) :
    Calls Try.prog 74 #[vx] w (OfP (-x) w) := by
  obtain ⟨A1, c1, rfl, hc1, hm1, hI1⟩ := hx
  have hl1 := len60 hx6
  have hr1 := fun (w' : World) (hb : Below w.heap.size w w') => right_any (sgn x) (D (ab x)) A1 c1 w' ((hI1.below hb).more hb.size) (by omega) true (by simp [rightP_of hx6])
  have hclo := fun (w' : World) (hb : Below w.heap.size w w') => clone_any (D (ab x)) A1 c1 w' ((hI1.below hb).more hb.size) (by omega)
  rw [← ab_neg x] at hclo
  have hnum := fun A c w' => number_any (-x) (-sgn x) A c w' (fun _ => (sgn_neg x).symm)
  have HNUM := Lib.hid hnum; clear hnum
  rw [ab_neg x] at hclo
  obtain ⟨l, hl⟩ : ∃ l, D (ab x) = l := ⟨_, rfl⟩
  have hlz : D (ab (-x)) = l := by rw [ab_neg, hl]
  have HLZ := Lib.hid hlz; clear hlz
  rw [hl] at hr1 hclo ⊢
  obtain ⟨n1, hn1⟩ : ∃ n, l.length = n := ⟨_, rfl⟩
  have HN1 := Lib.hid hn1
  rw [hn1] at hr1 hclo ⊢
  have hs1 := sgn_bd x
  obtain ⟨s1, hs1e⟩ : ∃ s, sgn x = s := ⟨_, rfl⟩
  rw [hs1e] at hr1 hs1 HNUM ⊢
  have HR1 := Lib.hid hr1; clear hr1
  have HCLO := Lib.hid hclo; clear hclo
  clear hn1 hs1e hI1 hx6 hc1 hl hl1
  go_enter Try.func74, Try.ntmps74
  go_wp2_with fail
  obtain ⟨w1, hw1, hb1, k1, k3, hsz⟩ := boxes2 w #[.int .i64 s1, .slice A1 n1 c1] #[.int .i64 0, .slice none 0 0]
  rw [← hw1]
  clear hw1
  (with_reducible refine (HR1.out w1 hb1).mono ?_)
  rintro e w3 ⟨rfl, hb2⟩
  have k1 := k1.below hb2 k1.lt
  have k3 := k3.below hb2 k3.lt
  have hs3' := hb2.size
  have hb3 := hb1.trans (hb2.mono hb1.size)
  clear hb1 hb2 HR1
  obtain ⟨g, hg⟩ : ∃ g, w.heap.size + 1 = g := ⟨_, rfl⟩
  have hgw : w.heap.size < g ∧ g < w3.heap.size := by have := k3.lt; omega
  rw [hg] at k3 ⊢
  clear hg hsz hs3'
  have e0 : ∀ W' : World, Below g w3 W' → W'.cell? ⟨w.heap.size, 0, none⟩ = some (.int .i64 s1) ∧ W'.cell? ⟨w.heap.size, 1, none⟩ = some (.slice A1 n1 c1) ∧ Below g w3 W' := fun W' hW =>
    ⟨(k1.below hW (by omega)).cell 0, (k1.below hW (by omega)).cell 1, hW⟩
  have E0 := Lib.hid e0; clear e0
  have hwm : IntKind.i64.wrap (-s1) = -s1 := IntWalk.i64_in _ (by omega)
  have hB00 : Below g w3 w3.drew := (Below.refl _ _).drew
  have hB01 : Below w3.heap.size w3 w3.drew := (Below.refl _ _).drew
  go_wp2_with fail
  go_region_held3 (fun W' => W'.cell? ⟨w.heap.size, 0, none⟩ = some (.int .i64 s1) ∧ W'.cell? ⟨w.heap.size, 1, none⟩ = some (.slice A1 n1 c1) ∧ Below g w3 W')
    (first | exact E0.out _ (by assumption) | exact E0.out _ ⟨rfl, rfl, rfl, Nat.le_refl _, fun _ _ => rfl⟩)
    (first
      | (go_at_call 69; refine (HCLO.out w3.drew ⟨hb3.os, hb3.tape, hb3.output, hb3.size, hb3.block⟩).mono ?_; rintro e w4 ⟨v4, rfl, hown4, hb4⟩; have hB4 : Below w3.heap.size w3 w4 := ⟨hb4.os, hb4.tape, hb4.output, hb4.size, hb4.block⟩; have hB4g : Below g w3 w4 := hB4.mono (by omega); rw [← HLZ.out] at hown4; obtain ⟨A4, c4, rfl, hc4, hm4, hI4⟩ := hown4.at_)
      | (go_at_call 48; refine (HNUM.out _ _ _).mono ?_; rintro e w5 ⟨r, rfl, hr, hb5⟩; have HR := Lib.hid hr; obtain ⟨s', A', n', c', rfl⟩ := hr.form; clear hr; have hB5 : Below w3.heap.size w3 w5 := hB4.trans (hb5.mono hB4.size); have hB5g : Below g w3 w5 := hB5.mono (by omega); have hbk := k3.below hB5 (by omega); have q0 : w5.cell? ⟨g, 0, none⟩ = some (.int .i64 0) := hbk.cell 0; have q1 : w5.cell? ⟨g, 1, none⟩ = some (.slice none 0 0) := hbk.cell 1; have f0 := hbk.frozen 0; have f1 := hbk.frozen 1; have hB6 := (hB5g.setCell (p := ⟨g, 0, none⟩) (Nat.le_refl _) (.int .i64 s')).setCell (p := ⟨g, 1, none⟩) (Nat.le_refl _) (.slice A' n' c')))
  have hbs := hbk.set2 (.int .i64 s') (.slice A' n' c')
  have hd0 := hbs.cell 0
  have hd1 := hbs.cell 1
  simp at hd0 hd1
  go_wp2_with fail
  refine bodyPost_ret (v := .agg #[.int .i64 s', .slice A' n' c']) (by simp [results, Try.results74, go_sem, hd0, hd1]) rfl ?_
  have hof := (hown4.below hb5).far2 (g := g) (by first | omega | (simp; omega)) (.int .i64 s') (.slice A' n' c')
  exact ⟨_, rfl, HR.out.bo (hof.mono (by have := hb3.size; first | omega | (simp; omega))), hb3.trans (hB6.mono (by omega))⟩

def GcdP (x y : Int) (w : World) (e : Ending) (w' : World) : Prop := ∃ r, e = .returned (.tuple #[r, .int .i64 0]) ∧ BO w' w.heap.size r (Int.gcd x y) ∧ Below w.heap.size w w'

set_option maxRecDepth 100000 in
set_option maxHeartbeats 1000000 in
theorem gcd_any (x y : Int) (vx vy : Value) (w : World) (hx : BV w w.heap.size vx x) (hy : BV w w.heap.size vy y) (hx6 : ab x < pw 60) (hy6 : ab y < pw 60) :
    Calls Try.prog 33 #[vx, vy] w (GcdP x y w) := by
  obtain ⟨A1, c1, rfl, hc1, hm1, hI1⟩ := hx
  obtain ⟨A2, c2, rfl, hc2, hm2, hI2⟩ := hy
  have hl1 := len60 hx6
  have hl2 := len60 hy6
  have hr1 := fun (w' : World) (hb : Below w.heap.size w w') => right_any (sgn x) (D (ab x)) A1 c1 w' ((hI1.below hb).more hb.size) (by omega) true (by simp [rightP_of hx6])
  have hr2 := fun (w' : World) (hb : Below w.heap.size w w') => right_any (sgn y) (D (ab y)) A2 c2 w' ((hI2.below hb).more hb.size) (by omega) true (by simp [rightP_of hy6])
  have hcm := fun (w' : World) (hb : Below w.heap.size w w') => common_any (ab x) (ab y) A1 A2 c1 c2 w' ((hI1.below hb).more hb.size) ((hI2.below hb).more hb.size) hc1 hc2 hm1 hm2 (ab_nonneg _) (ab_nonneg _) (by omega) (by omega)
  have hgg : Int.gcd (ab x) (ab y) = Int.gcd x y := by unfold Int.gcd ab; simp
  rw [hgg] at hcm
  obtain ⟨G, hG⟩ : ∃ G : Int, (Int.gcd x y : Int) = G := ⟨_, rfl⟩
  have hG0 : 0 ≤ G := by omega
  have haG : ab G = G := by unfold ab; omega
  rw [hG, ← haG] at hcm
  unfold GcdP
  rw [hG]
  have hnum := fun A c w' => number_any G 1 A c w' (fun h => (sgn_pos (by omega)).symm)
  have HNUM := Lib.hid hnum; clear hnum
  obtain ⟨n1, hn1⟩ : ∃ n, (D (ab x)).length = n := ⟨_, rfl⟩
  obtain ⟨n2, hn2⟩ : ∃ n, (D (ab y)).length = n := ⟨_, rfl⟩
  rw [hn1] at hr1 hcm ⊢
  rw [hn2] at hr2 hcm ⊢
  obtain ⟨s1, hs1e⟩ : ∃ s, sgn x = s := ⟨_, rfl⟩
  obtain ⟨sy, hs2e⟩ : ∃ s, sgn y = s := ⟨_, rfl⟩
  rw [hs1e] at hr1 ⊢
  rw [hs2e] at hr2 ⊢
  have HR1 := Lib.hid hr1; clear hr1
  have HR2 := Lib.hid hr2; clear hr2
  have HCM := Lib.hid hcm; clear hcm
  clear hn1 hn2 hs1e hs2e hI1 hI2 hx6 hy6 hc1 hc2 hgg hG haG hl1 hl2
  go_enter Try.func33, Try.ntmps33
  go_wp2_with fail
  obtain ⟨w1, hw1, hb1, k1, k2, k3, hsz⟩ := boxes3 w #[.int .i64 s1, .slice A1 n1 c1] #[.int .i64 sy, .slice A2 n2 c2] #[.int .i64 0, .slice none 0 0]
  rw [← hw1]
  clear hw1
  (with_reducible refine (HR1.out w1 hb1).mono ?_)
  rintro e w2 ⟨rfl, hb2⟩
  have k1 := k1.below hb2 k1.lt
  have k2 := k2.below hb2 k2.lt
  have k3 := k3.below hb2 k3.lt
  have hs2' := hb2.size
  have hb2 := hb1.trans (hb2.mono hb1.size)
  have j1 : w2.cell? ⟨w.heap.size + 1, 0, none⟩ = some (.int .i64 sy) := k2.cell 0
  have j2 : w2.cell? ⟨w.heap.size + 1, 1, none⟩ = some (.slice A2 n2 c2) := k2.cell 1
  go_wp2_with fail
  (with_reducible refine (HR2.out w2 hb2).mono ?_)
  rintro e w3 ⟨rfl, hb3⟩
  clear j1 j2
  have k1 := k1.below hb3 k1.lt
  have k2 := k2.below hb3 k2.lt
  have k3 := k3.below hb3 k3.lt
  have hs3' := hb3.size
  have hb3 := hb2.trans (hb3.mono hb2.size)
  clear hb1 hb2 HR1 HR2
  obtain ⟨g, hg⟩ : ∃ g, w.heap.size + 1 + 1 = g := ⟨_, rfl⟩
  have hgw : w.heap.size + 1 < g ∧ g < w3.heap.size := by have := k3.lt; omega
  rw [hg] at k3 ⊢
  clear hg hsz hs2' hs3'
  have j1 : w3.cell? ⟨w.heap.size, 1, none⟩ = some (.slice A1 n1 c1) := k1.cell 1
  have j3 : w3.cell? ⟨w.heap.size + 1, 1, none⟩ = some (.slice A2 n2 c2) := k2.cell 1
  go_wp2_with fail
  (with_reducible refine (HCM.out w3 hb3).mono ?_)
  rintro e w4 ⟨v4, rfl, hown4, hb4⟩
  obtain ⟨A4, c4, rfl, hc4, hm4, hI4⟩ := hown4.at_
  go_wp2_with fail
  (with_reducible refine (HNUM.out _ _ _).mono ?_)
  rintro e w5 ⟨r, rfl, hr, hb5⟩
  have HR := Lib.hid hr
  obtain ⟨s', A', n', c', rfl⟩ := hr.form
  clear hr
  have hB5 : Below w3.heap.size w3 w5 := hb4.trans (hb5.mono hb4.size)
  have hbk := k3.below hB5 (by omega)
  have q0 : w5.cell? ⟨g, 0, none⟩ = some (.int .i64 0) := hbk.cell 0
  have q1 : w5.cell? ⟨g, 1, none⟩ = some (.slice none 0 0) := hbk.cell 1
  have f0 := hbk.frozen 0
  have f1 := hbk.frozen 1
  have hB6 := ((hB5.mono (B' := g) (by omega)).setCell (p := ⟨g, 0, none⟩) (Nat.le_refl _) (.int .i64 s')).setCell (p := ⟨g, 1, none⟩) (Nat.le_refl _) (.slice A' n' c')
  have hbs := hbk.set2 (.int .i64 s') (.slice A' n' c')
  have hd0 := hbs.cell 0
  have hd1 := hbs.cell 1
  simp at hd0 hd1
  go_wp2_with fail
  refine bodyPost_ret (v := .tuple #[.agg #[.int .i64 s', .slice A' n' c'], .int .i64 0]) (by simp [results, Try.results33, go_sem, hd0, hd1]) rfl ?_
  have hof := (hown4.below hb5).far2 (g := g) (by first | omega | (simp; omega)) (.int .i64 s') (.slice A' n' c')
  exact ⟨_, rfl, HR.out.bo (hof.mono (by have := hb3.size; first | omega | (simp; omega))), hb3.trans (hB6.mono (by omega))⟩

end Go.Proofs.Ytlbjaimgoiimgaa
