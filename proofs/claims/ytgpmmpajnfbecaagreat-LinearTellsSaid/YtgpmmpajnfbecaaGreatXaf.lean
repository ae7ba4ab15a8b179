/- Walks: common. Walks: Right. Walks: number, fitting, Of, Same. -/
import Derived.Test.YtgpmmpajnfbecaaGreatXae
import Derived.Deep.LoopGhost

namespace Go.Proofs.YtgpmmpajnfbecaaGreat
open Go.RowKit

theorem Sl.drewN {w : World} {B : Nat} {v : Value} {l : List Int} (h : Sl w B v l) (n : Nat) : Sl (w.drewN n) B v l := h
theorem below_drewN {B : Nat} {w w' : World} (h : Below B w w') (n : Nat) : Below B w (w'.drewN n) := ⟨h.os, h.tape, h.output, h.size, h.block⟩

set_option maxRecDepth 100000 in
set_option maxHeartbeats 2000000 in
theorem common_any (X Y : Int) (Aa Ab : Option Addr) (ca cb : Nat) (w : World) (hIa : IntsAt w.heap.size w Aa (D X)) (hIb : IntsAt w.heap.size w Ab (D Y)) (hca : (D X).length ≤ ca) (hcb : (D Y).length ≤ cb) (hcm : ca ≤ 9223372036854775807) (hcm2 : cb ≤ 9223372036854775807) (hX : 0 ≤ X) (hY : 0 ≤ Y) (hla : (D X).length ≤ 150) (hlb : (D Y).length ≤ 150) :
    Calls Tryz.prog 78 #[.slice Aa (D X).length ca, .slice Ab (D Y).length cb] w fun e w' => ∃ v, e = .returned v ∧ OwnI w' w.heap.size v (D (Int.gcd X Y)) ∧ Below w.heap.size w w' := by
  have hord := order_any X Y Aa Ab ca cb w w.heap.size hIa hIb hX hY (by omega) (by omega)
  have hsa : Sl w w.heap.size (.slice Aa (D X).length ca) (D X) := ⟨Aa, ca, rfl, hca, hcm, hIa⟩
  have hsb : Sl w w.heap.size (.slice Ab (D Y).length cb) (D Y) := ⟨Ab, cb, rfl, hcb, hcm2, hIb⟩
  have hxm : X < pw 150 := (D_len_le hX).1 hla
  have hym : Y < pw 150 := (D_len_le hY).1 hlb
  obtain ⟨n, hn⟩ : ∃ n, (D X).length = n := ⟨_, rfl⟩
  obtain ⟨nb, hnb⟩ : ∃ n, (D Y).length = n := ⟨_, rfl⟩
  rw [hn] at hord hsa ⊢
  rw [hnb] at hord hsb ⊢
  obtain ⟨G, hG⟩ : ∃ G, Int.gcd X Y = G := ⟨_, rfl⟩
  rw [hG]
  have HSA := Lib.hid hsa; clear hsa
  have HSB := Lib.hid hsb; clear hsb
  have HXM := Lib.hid hxm; clear hxm
  have HYM := Lib.hid hym; clear hym
  have HG := Lib.hid hG; clear hG
  clear hn hnb hIa hIb hca hcb hla hlb
  by_cases hlt : X < Y
  · have hcmp : Lib.compareInt X Y = -1 := by unfold Lib.compareInt; rw [if_pos hlt]
    rw [hcmp] at hord
    have HO := Lib.hid hord; clear hord hcmp
    go_enter Tryz.func78, Tryz.ntmps78
    go_wp2_with fail
    refine HO.out.mono ?_
    rintro e w1 ⟨rfl, q, rfl⟩
    go_wp2_with fail
    go_loopg [0, 1] (X).toNat (fun g va vb wr => ∃ X' Y' : Int, g = Y'.toNat ∧ Sl wr wr.heap.size va (D X') ∧ Sl wr wr.heap.size vb (D Y') ∧ 0 ≤ Y' ∧ Y' ≤ X' ∧ Hid (X' < pw 150) ∧ Hid (Int.gcd X' Y' = G) ∧ Below w.heap.size w wr)
    case atStart => exact ⟨Y, X, rfl, HSB.out.drewN _, HSA.out.drewN _, hX, by omega, HYM, Lib.hid (by rw [Int.gcd_comm]; exact HG.out), below_drewN (Below.refl _ _) _⟩
    case round =>
      obtain ⟨X', Y', hg, ⟨A1, c1, rfl, hc1, hm1, hI1⟩, ⟨A2, c2, rfl, hc2, hm2, hI2⟩, h0, h1, hxm, hgc, hbw⟩ := hrel
      have hs := hbw.size
      have hlx : (D X').length ≤ 150 := (D_len_le (by omega)).2 hxm.out
      have hly : (D Y').length ≤ 150 := (D_len_le h0).2 (by have := hxm.out; omega)
      by_cases h3 : 2 < (D Y').length
      · have hcl := closer_any X' Y' A1 A2 c1 c2 wr hI1 hI2 hc1 hc2 hm2 h0 h1 (by omega) hlx
        obtain ⟨n1, hn1⟩ : ∃ n, (D X').length = n := ⟨_, rfl⟩
        obtain ⟨n2, hn2⟩ : ∃ n, (D Y').length = n := ⟨_, rfl⟩
        rw [hn1] at hcl ⊢
        rw [hn2] at hcl h3 ⊢
        have HCL := Lib.hid hcl; clear hcl
        clear hn1 hn2 hc1 hc2 hlx hly hI1 hI2
        subst hg
        go_wp2_with fail
        refine HCL.out.mono ?_
        rintro e w5 ⟨v1, v2, X2, Y2, rfl, hv1, hv2, g1, g2, g3, g4, g5, hb5⟩
        have G5 := Lib.hid g5; clear g5
        go_wp2_with fail
        go_roundg Y2.toNat
        case measure => omega
        case rel => exact ⟨X2, Y2, rfl, hv1, hv2, g1, g2, Lib.hid (by have := hxm.out; omega), Lib.hid (by rw [G5.out, hgc.out]), hbw.trans (hb5.mono hs)⟩
      · by_cases h4 : (D Y').length = 0
        · have hy0 : Y' = 0 := by
            rcases Int.lt_or_le 0 Y' with h | h
            · have := D_len_pos h; omega
            · omega
          have hcl := clone_any (D X') A1 c1 wr hI1 (by omega)
          have hG0 : (G : Int) = X' := by rw [← hgc.out, hy0, Int.gcd_zero_right]; omega
          rw [h4] at h3 ⊢
          obtain ⟨n1, hn1⟩ : ∃ n, (D X').length = n := ⟨_, rfl⟩
          rw [hn1] at hcl ⊢
          have HCL := Lib.hid hcl; clear hcl
          have HG0 := Lib.hid hG0; clear hG0 hy0
          clear hn1 hc1 hc2 hlx hly hI1 hI2 h4
          go_wp2_with fail
          refine HCL.out.mono ?_
          rintro e w5 ⟨v1, rfl, hv1, hb5⟩
          go_wp2_with fail
          go_ret
          exact ⟨v1, rfl, by rw [HG0.out]; exact hv1.mono hs, hbw.trans (hb5.mono hs)⟩
        · have hy1 : 1 ≤ Y' := by
            rcases Int.lt_or_le 0 Y' with h | h
            · omega
            · rw [D_np h] at h4; simp at h4
          have hy2 : Y' < 1099511627776 := by
            have := (D_len_le h0 (k := 2)).1 (by omega)
            rw [show pw 2 = 1099511627776 by decide] at this
            exact this
          have hj := join_any A2 c2 (D Y') wr hI2 (Dig_D _) (by omega) (by rw [nv_D h0]; omega)
          rw [nv_D h0] at hj
          have hds := fun (w1 : World) (hb : Below wr.heap.size wr w1) => divideShort_any (D X') A1 c1 Y' w1 ((hI1.below hb).more hb.size) (Dig_D _) (by omega) hy1 (by omega)
          rw [nv_D (by omega)] at hds
          have hm0 := Int.emod_nonneg X' (b := Y') (by omega)
          have hm1 := Int.emod_lt_of_pos X' (b := Y') (by omega)
          have hgm : Int.gcd Y' (X' % Y') = G := by rw [← hgc.out, Int.emod_def, Int.mul_comm, Int.gcd_sub_mul_right_right, Int.gcd_comm]
          obtain ⟨r, hr⟩ : ∃ r, X' % Y' = r := ⟨_, rfl⟩
          rw [hr] at hm0 hm1 hds hgm
          obtain ⟨n1, hn1⟩ : ∃ n, (D X').length = n := ⟨_, rfl⟩
          obtain ⟨n2, hn2⟩ : ∃ n, (D Y').length = n := ⟨_, rfl⟩
          rw [hn1] at hds ⊢
          rw [hn2] at hj h3 h4 ⊢
          have hn2' : ((n2 : Int) == 0) = false := by simp; omega
          have HJ := Lib.hid hj; clear hj
          have HDS := Lib.hid hds; clear hds
          have HGM := Lib.hid hgm; clear hgm
          clear hn1 hn2 hr hc1 hc2 hlx hly hI1 hI2 hg
          go_wp2_with fail
          refine HJ.out.mono ?_
          rintro e w5 ⟨rfl, hb5⟩
          go_wp2_with fail
          refine (HDS.out w5 hb5).mono ?_
          rintro e w6 ⟨v6, rfl, hown6, hb6⟩
          have hb06 := hbw.trans ((hb5.trans (hb6.mono hb5.size)).mono hs)
          clear hown6 HDS HJ hbw hb5 hb6 hxm hgc
          go_wp2_with fail
          go_loopg [5, 7] r.toNat (fun g xv yv wr => ∃ x y : Int, g = y.toNat ∧ xv = .int .i64 x ∧ yv = .int .i64 y ∧ 1 ≤ x ∧ x < 1099511627776 ∧ 0 ≤ y ∧ y < 1099511627776 ∧ Hid (Int.gcd x y = G) ∧ Below w.heap.size w wr)
          case atStart => exact ⟨Y', r, rfl, rfl, rfl, hy1, hy2, hm0, by omega, HGM, hb06⟩
          case round =>
            obtain ⟨x, y, hg, rfl, rfl, x0, x1, y0, y1, hgc, hbr⟩ := hrel
            subst hg
            by_cases hyp : 0 < y
            · have hz : (y == 0) = false := by simp; omega
              have hm0 := Int.emod_nonneg x (b := y) (by omega)
              have hm1 := Int.emod_lt_of_pos x (b := y) (by omega)
              have hgm : Int.gcd y (x % y) = G := by rw [← hgc.out, Int.emod_def, Int.mul_comm, Int.gcd_sub_mul_right_right, Int.gcd_comm]
              have hm2 : x.tmod y = x % y := Int.tmod_eq_emod_of_nonneg (by omega)
              have HGM2 := Lib.hid hgm; clear hgm
              go_wp2_with fail
              go_quiet (fail)
              go_wp2_with fail
              go_roundg (x % y).toNat
              case measure => omega
              case rel => exact ⟨y, x % y, rfl, rfl, by first | rfl | rw [hm2], by omega, y1, hm0, by omega, HGM2, below_drewN hbr _⟩
            · have : y = 0 := by omega
              subst this
              have hG0 : (G : Int) = x := by rw [← hgc.out, Int.gcd_zero_right]; omega
              have HG0 := Lib.hid hG0; clear hG0
              have hs2 := hbr.size
              go_wp2_with fail
              refine (split_any x _ (by omega) (by omega)).mono ?_
              rintro e w7 ⟨v7, rfl, hown7, hb7⟩
              go_wp2_with fail
              go_ret
              exact ⟨v7, rfl, by rw [HG0.out]; exact hown7.mono hs2, hbr.trans (hb7.mono hs2)⟩
  · have hcmp : 0 ≤ Lib.compareInt X Y := by unfold Lib.compareInt; split <;> (try split) <;> omega
    obtain ⟨z, hz⟩ : ∃ z, Lib.compareInt X Y = z := ⟨_, rfl⟩
    rw [hz] at hord hcmp
    have HO := Lib.hid hord; clear hord hz
    go_enter Tryz.func78, Tryz.ntmps78
    go_wp2_with fail
    refine HO.out.mono ?_
    rintro e w1 ⟨rfl, q, rfl⟩
    go_wp2_with fail
    go_loopg [0, 1] (Y).toNat (fun g va vb wr => ∃ X' Y' : Int, g = Y'.toNat ∧ Sl wr wr.heap.size va (D X') ∧ Sl wr wr.heap.size vb (D Y') ∧ 0 ≤ Y' ∧ Y' ≤ X' ∧ Hid (X' < pw 150) ∧ Hid (Int.gcd X' Y' = G) ∧ Below w.heap.size w wr)
    case atStart => exact ⟨X, Y, rfl, HSA.out.drewN _, HSB.out.drewN _, hY, by omega, HXM, HG, below_drewN (Below.refl _ _) _⟩
    case round =>
      obtain ⟨X', Y', hg, ⟨A1, c1, rfl, hc1, hm1, hI1⟩, ⟨A2, c2, rfl, hc2, hm2, hI2⟩, h0, h1, hxm, hgc, hbw⟩ := hrel
      have hs := hbw.size
      have hlx : (D X').length ≤ 150 := (D_len_le (by omega)).2 hxm.out
      have hly : (D Y').length ≤ 150 := (D_len_le h0).2 (by have := hxm.out; omega)
      by_cases h3 : 2 < (D Y').length
      · have hcl := closer_any X' Y' A1 A2 c1 c2 wr hI1 hI2 hc1 hc2 hm2 h0 h1 (by omega) hlx
        obtain ⟨n1, hn1⟩ : ∃ n, (D X').length = n := ⟨_, rfl⟩
        obtain ⟨n2, hn2⟩ : ∃ n, (D Y').length = n := ⟨_, rfl⟩
        rw [hn1] at hcl ⊢
        rw [hn2] at hcl h3 ⊢
        have HCL := Lib.hid hcl; clear hcl
        clear hn1 hn2 hc1 hc2 hlx hly hI1 hI2
        subst hg
        go_wp2_with fail
        refine HCL.out.mono ?_
        rintro e w5 ⟨v1, v2, X2, Y2, rfl, hv1, hv2, g1, g2, g3, g4, g5, hb5⟩
        have G5 := Lib.hid g5; clear g5
        go_wp2_with fail
        go_roundg Y2.toNat
        case measure => omega
        case rel => exact ⟨X2, Y2, rfl, hv1, hv2, g1, g2, Lib.hid (by have := hxm.out; omega), Lib.hid (by rw [G5.out, hgc.out]), hbw.trans (hb5.mono hs)⟩
      · by_cases h4 : (D Y').length = 0
        · have hy0 : Y' = 0 := by
            rcases Int.lt_or_le 0 Y' with h | h
            · have := D_len_pos h; omega
            · omega
          have hcl := clone_any (D X') A1 c1 wr hI1 (by omega)
          have hG0 : (G : Int) = X' := by rw [← hgc.out, hy0, Int.gcd_zero_right]; omega
          rw [h4] at h3 ⊢
          obtain ⟨n1, hn1⟩ : ∃ n, (D X').length = n := ⟨_, rfl⟩
          rw [hn1] at hcl ⊢
          have HCL := Lib.hid hcl; clear hcl
          have HG0 := Lib.hid hG0; clear hG0 hy0
          clear hn1 hc1 hc2 hlx hly hI1 hI2 h4
          go_wp2_with fail
          refine HCL.out.mono ?_
          rintro e w5 ⟨v1, rfl, hv1, hb5⟩
          go_wp2_with fail
          go_ret
          exact ⟨v1, rfl, by rw [HG0.out]; exact hv1.mono hs, hbw.trans (hb5.mono hs)⟩
        · have hy1 : 1 ≤ Y' := by
            rcases Int.lt_or_le 0 Y' with h | h
            · omega
            · rw [D_np h] at h4; simp at h4
          have hy2 : Y' < 1099511627776 := by
            have := (D_len_le h0 (k := 2)).1 (by omega)
            rw [show pw 2 = 1099511627776 by decide] at this
            exact this
          have hj := join_any A2 c2 (D Y') wr hI2 (Dig_D _) (by omega) (by rw [nv_D h0]; omega)
          rw [nv_D h0] at hj
          have hds := fun (w1 : World) (hb : Below wr.heap.size wr w1) => divideShort_any (D X') A1 c1 Y' w1 ((hI1.below hb).more hb.size) (Dig_D _) (by omega) hy1 (by omega)
          rw [nv_D (by omega)] at hds
          have hm0 := Int.emod_nonneg X' (b := Y') (by omega)
          have hm1 := Int.emod_lt_of_pos X' (b := Y') (by omega)
          have hgm : Int.gcd Y' (X' % Y') = G := by rw [← hgc.out, Int.emod_def, Int.mul_comm, Int.gcd_sub_mul_right_right, Int.gcd_comm]
          obtain ⟨r, hr⟩ : ∃ r, X' % Y' = r := ⟨_, rfl⟩
          rw [hr] at hm0 hm1 hds hgm
          obtain ⟨n1, hn1⟩ : ∃ n, (D X').length = n := ⟨_, rfl⟩
          obtain ⟨n2, hn2⟩ : ∃ n, (D Y').length = n := ⟨_, rfl⟩
          rw [hn1] at hds ⊢
          rw [hn2] at hj h3 h4 ⊢
          have hn2' : ((n2 : Int) == 0) = false := by simp; omega
          have HJ := Lib.hid hj; clear hj
          have HDS := Lib.hid hds; clear hds
          have HGM := Lib.hid hgm; clear hgm
          clear hn1 hn2 hr hc1 hc2 hlx hly hI1 hI2 hg
          go_wp2_with fail
          refine HJ.out.mono ?_
          rintro e w5 ⟨rfl, hb5⟩
          go_wp2_with fail
          refine (HDS.out w5 hb5).mono ?_
          rintro e w6 ⟨v6, rfl, hown6, hb6⟩
          have hb06 := hbw.trans ((hb5.trans (hb6.mono hb5.size)).mono hs)
          clear hown6 HDS HJ hbw hb5 hb6 hxm hgc
          go_wp2_with fail
          go_loopg [5, 7] r.toNat (fun g xv yv wr => ∃ x y : Int, g = y.toNat ∧ xv = .int .i64 x ∧ yv = .int .i64 y ∧ 1 ≤ x ∧ x < 1099511627776 ∧ 0 ≤ y ∧ y < 1099511627776 ∧ Hid (Int.gcd x y = G) ∧ Below w.heap.size w wr)
          case atStart => exact ⟨Y', r, rfl, rfl, rfl, hy1, hy2, hm0, by omega, HGM, hb06⟩
          case round =>
            obtain ⟨x, y, hg, rfl, rfl, x0, x1, y0, y1, hgc, hbr⟩ := hrel
            subst hg
            by_cases hyp : 0 < y
            · have hz : (y == 0) = false := by simp; omega
              have hm0 := Int.emod_nonneg x (b := y) (by omega)
              have hm1 := Int.emod_lt_of_pos x (b := y) (by omega)
              have hgm : Int.gcd y (x % y) = G := by rw [← hgc.out, Int.emod_def, Int.mul_comm, Int.gcd_sub_mul_right_right, Int.gcd_comm]
              have hm2 : x.tmod y = x % y := Int.tmod_eq_emod_of_nonneg (by omega)
              have HGM2 := Lib.hid hgm; clear hgm
              go_wp2_with fail
              go_quiet (fail)
              go_wp2_with fail
              go_roundg (x % y).toNat
              case measure => omega
              case rel => exact ⟨y, x % y, rfl, rfl, by first | rfl | rw [hm2], by omega, y1, hm0, by omega, HGM2, below_drewN hbr _⟩
            · have : y = 0 := by omega
              subst this
              have hG0 : (G : Int) = x := by rw [← hgc.out, Int.gcd_zero_right]; omega
              have HG0 := Lib.hid hG0; clear hG0
              have hs2 := hbr.size
              go_wp2_with fail
              refine (split_any x _ (by omega) (by omega)).mono ?_
              rintro e w7 ⟨v7, rfl, hown7, hb7⟩
              go_wp2_with fail
              go_ret
              exact ⟨v7, rfl, by rw [HG0.out]; exact hown7.mono hs2, hbr.trans (hb7.mono hs2)⟩

end Go.Proofs.YtgpmmpajnfbecaaGreat

namespace Go.Proofs.YtgpmmpajnfbecaaGreat
open Go.RowKit

def sgn (z : Int) : Int := if z < 0 then -1 else if z = 0 then 0 else 1
def ab (z : Int) : Int := z.natAbs
theorem ab_nonneg (z : Int) : 0 ≤ ab z := by unfold ab; omega
theorem sgn_ab (z : Int) : sgn z * ab z = z := by
  unfold sgn ab; split
  · omega
  · split <;> omega
theorem sgn_neg (z : Int) : sgn (-z) = -sgn z := by unfold sgn; split <;> split <;> (try split) <;> (try split) <;> omega
theorem ab_neg (z : Int) : ab (-z) = ab z := by unfold ab; omega
theorem sgn_bd (z : Int) : -1 ≤ sgn z ∧ sgn z ≤ 1 := by unfold sgn; split <;> (try split) <;> omega
theorem sgn_zero : sgn 0 = 0 := rfl
theorem ab_zero : ab 0 = 0 := rfl
theorem sgn_pos {z : Int} (h : 0 < z) : sgn z = 1 := by unfold sgn; rw [if_neg (by omega), if_neg (by omega)]
theorem sgn_of_neg {z : Int} (h : z < 0) : sgn z = -1 := by unfold sgn; rw [if_pos h]

/-- A sign and digits that are right. -/
def RightP (s : Int) (l : List Int) : Prop := ∃ z, s = sgn z ∧ l = D (ab z) ∧ ab z < pw 60

theorem RightP.nil : RightP 0 [] := ⟨0, rfl, by rw [ab_zero, D_zero], by rw [ab_zero]; exact pw_pos 60⟩
theorem RightP.mk {s : Int} {l : List Int} (hs : s = 1 ∨ s = -1) (hn : Nrm l) (hl : 0 < l.length) (h6 : l.length ≤ 60) : RightP s l := by
  have hp := hn.pos hl
  have hlt := hn.1.nv_lt
  have h60 := pw_le h6
  rcases hs with rfl | rfl
  · refine ⟨nv l, (sgn_pos hp).symm, ?_, ?_⟩
    · have : ab (nv l) = nv l := by unfold ab; omega
      rw [this, hn.eq_D]
    · unfold ab; omega
  · refine ⟨-nv l, (sgn_of_neg (by omega)).symm, ?_, ?_⟩
    · have : ab (-nv l) = nv l := by unfold ab; omega
      rw [this, hn.eq_D]
    · unfold ab; omega

set_option maxRecDepth 100000 in
set_option maxHeartbeats 1000000 in
theorem right_zero (s : Int) (A : Option Addr) (c : Nat) (w : World) : 
    Calls Tryz.prog 76 #[.agg #[.int .i64 s, .slice A 0 c]] w fun e w' => e = .returned (.bool (s == 0)) ∧ Below w.heap.size w w' := by
  go_enter Tryz.func76, Tryz.ntmps76
  go_wp2_with fail
  go_ret
  exact ⟨rfl, (Below.refl _ _).alloc (Nat.le_refl _) _⟩

set_option maxRecDepth 100000 in
set_option maxHeartbeats 2000000 in
theorem right_pos (s : Int) (l : List Int) (A : Option Addr) (c : Nat) (w : World) (hI : IntsAt w.heap.size w A l) (hp : 0 < l.length) (hl : l.length ≤ 9223372036854775807) (res : Bool) (hres : res = true ↔ RightP s l) :
    Calls Tryz.prog 76 #[.agg #[.int .i64 s, .slice A l.length c]] w fun e w' => e = .returned (.bool res) ∧ Below w.heap.size w w' := by
  obtain ⟨n, hn⟩ : ∃ n, l.length = n := ⟨_, rfl⟩
  have hnn : l.length ≤ n ∧ n ≤ l.length := by omega
  obtain ⟨b, off, hA, hbB, hc⟩ := hI (n - 1) (by omega)
  subst hA
  have hc1 : (w.alloc (.cells #[.int .i64 s, .slice (some ⟨b, off, none⟩) n c] 39)).cell? ⟨b, off + (n - 1), none⟩ = some (.int .i64 (l.getD (n - 1) 0)) := (World.cell?_alloc_lt w _ _ hbB).trans hc
  obtain ⟨t, ht⟩ : ∃ t, l.getD (n - 1) 0 = t := ⟨_, rfl⟩
  rw [ht] at hc1
  have hn0 : ((n : Int) == 0) = false := by simp; omega
  have HT := Lib.hid ht; clear ht hc
  have HR := Lib.hid hres; clear hres
  rw [hn] at hl ⊢
  have HN := Lib.hid hn; clear hn
  have hno : (s = 1 ∨ s = -1 → n ≤ 60 → t ≠ 0 → ¬ Dig l) → res = false := fun h => by
    rcases hb : res with _ | _
    · rfl
    · exfalso
      obtain ⟨z, h1, h2, h3⟩ := HR.out.1 hb
      have hzn := Nrm_D (ab z)
      rw [← h2] at hzn
      have hz0 : ab z ≠ 0 := fun h => by rw [h, D_zero] at h2; rw [h2] at hp; cases hp
      refine h ?_ ?_ ?_ hzn.1
      · rw [h1]; unfold sgn; unfold ab at hz0; split
        · exact .inr rfl
        · rw [if_neg (by omega)]; exact .inl rfl
      · rw [← HN.out, h2]; exact (D_len_le (ab_nonneg z)).2 h3
      · rw [← HT.out]
        have := hzn.2 hp
        rw [HN.out] at this
        exact this
  have hyes : (s = 1 ∨ s = -1) → n ≤ 60 → t ≠ 0 → Dig l → res = true := fun h1 h2 h3 h4 => HR.out.2 (RightP.mk h1 ⟨h4, fun _ => by rw [HN.out, HT.out]; exact h3⟩ hp (by omega))
  have HNO := Lib.hid hno; clear hno
  have HYES := Lib.hid hyes; clear hyes
  have hbx : Below w.heap.size w (w.alloc (.cells #[.int .i64 s, .slice (some ⟨b, off, none⟩) n c] 39)) := (Below.refl _ _).alloc (Nat.le_refl _) _
  by_cases hs : s = 1 ∨ s = -1
  · by_cases h60 : n ≤ 60
    · have hd6 : decide (60 < (n : Int)) = false := by simp; omega
      by_cases ht0 : t = 0
      · have := HNO.out (fun _ _ h => absurd ht0 h)
        subst this
        subst ht0
        rcases hs with rfl | rfl
        all_goals
          go_enter Tryz.func76, Tryz.ntmps76
          go_wp2_with fail
          go_ret
          exact ⟨rfl, hbx⟩
      · have ht1 : (t == 0) = false := by simpa using ht0
        have HS := Lib.hid hs
        rcases hs with rfl | rfl
        all_goals
          go_enter Tryz.func76, Tryz.ntmps76
          go_wp2_with fail
          go_loop [38] (fun i => ∃ k : Nat, k ≤ n ∧ i = .int .i64 k ∧ Hid (Dig (l.take k))) (fun i => n - (intOf i).toNat)
          case atStart => exact ⟨0, Nat.zero_le _, rfl, Lib.hid Dig.nil⟩
          case round =>
            obtain ⟨k, hk, rfl, hdg⟩ := hrel
            by_cases hlt : k < n
            · obtain ⟨b', off', hA', hbB', hck⟩ := hI k (by omega)
              injection hA' with hA'
              injection hA' with hA1 hA2
              subst hA1; subst hA2
              have hck' := (hbx.cell (p := ⟨b, off + k, none⟩) hbB).trans hck
              have hnd : ¬ (0 ≤ l.getD k 0 ∧ l.getD k 0 < 1048576) → res = false := fun h => HNO.out (fun _ _ _ hD => h (hD.getD (by omega)))
              have hts := take_snoc (l := l) (k := k) (by omega)
              obtain ⟨d, hdd⟩ : ∃ d, l.getD k 0 = d := ⟨_, rfl⟩
              rw [hdd] at hck' hnd hts
              clear hdd hck
              have HND := Lib.hid hnd; clear hnd
              have HTS := Lib.hid hts; clear hts
              by_cases hd0 : d < 0
              · have := HND.out (by omega)
                subst this
                go_wp2_with fail
                go_ret
                exact ⟨rfl, hbx⟩
              · by_cases hd1 : 1048575 < d
                · have := HND.out (by omega)
                  subst this
                  go_wp2_with fail
                  go_ret
                  exact ⟨rfl, hbx⟩
                · go_wp2_with fail
                  go_round
                  case rel => exact ⟨k + 1, by omega, by go_num, Lib.hid (by rw [HTS.out]; exact hdg.out.snoc (by omega) (by omega))⟩
                  case measure => simp [intOf]; omega
            · have : k = n := by omega
              subst this
              have hdg' := hdg.out
              rw [List.take_of_length_le (by omega)] at hdg'
              have := HYES.out HS.out h60 ht0 hdg'
              subst this
              go_wp2_with fail
              go_ret
              exact ⟨rfl, hbx⟩
    · have := HNO.out (fun _ h _ => absurd h h60)
      subst this
      rcases hs with rfl | rfl
      all_goals
        go_enter Tryz.func76, Tryz.ntmps76
        go_wp2_with fail
        go_ret
        exact ⟨rfl, hbx⟩
  · have := HNO.out (fun h _ _ => absurd h hs)
    subst this
    have h1 : (s != 1) = true := by simp; omega
    have h2 : (s != -1) = true := by simp; omega
    clear hs
    go_enter Tryz.func76, Tryz.ntmps76
    go_wp2_with fail
    go_ret
    exact ⟨rfl, hbx⟩

/-- Right, at whatever came in. -/
theorem right_any (s : Int) (l : List Int) (A : Option Addr) (c : Nat) (w : World) (hI : IntsAt w.heap.size w A l) (hl : l.length ≤ 9223372036854775807) (res : Bool) (hres : res = true ↔ RightP s l) :
    Calls Tryz.prog 76 #[.agg #[.int .i64 s, .slice A l.length c]] w fun e w' => e = .returned (.bool res) ∧ Below w.heap.size w w' := by
  rcases Nat.eq_zero_or_pos l.length with h | h
  · have hn : l = [] := List.eq_nil_of_length_eq_zero h
    subst hn
    have e : (s == 0) = res := by
      rw [Bool.eq_iff_iff, hres]
      constructor
      · intro h; simp at h; subst h; exact RightP.nil
      · rintro ⟨z, h1, h2, h3⟩
        have : ab z = 0 := by
          rcases Int.lt_or_le 0 (ab z) with h | h
          · have := D_len_pos h; rw [← h2] at this; cases this
          · have := ab_nonneg z; omega
        have hz : z = 0 := by unfold ab at this; omega
        subst hz
        rw [h1]; rfl
    rw [← e]
    exact right_zero s A c w
  · exact right_pos s l A c w hI h hl res hres

end Go.Proofs.YtgpmmpajnfbecaaGreat

namespace Go.Proofs.YtgpmmpajnfbecaaGreat
open Go.RowKit

/-- A big integer that reads as z. -/
def BV (w : World) (B : Nat) (v : Value) (z : Int) : Prop := ∃ A c, v = .agg #[.int .i64 (sgn z), .slice A (D (ab z)).length c] ∧ (D (ab z)).length ≤ c ∧ c ≤ 9223372036854775807 ∧ IntsAt B w A (D (ab z))
section
variable {w w' : World} {B B' : Nat} {v : Value} {z : Int}
theorem BV.below (h : BV w B v z) (hb : Below B w w') : BV w' B v z := by
  obtain ⟨A, c, e, h1, h2, h3⟩ := h
  exact ⟨A, c, e, h1, h2, h3.below hb⟩
theorem BV.more (h : BV w B v z) (hb : B ≤ B') : BV w B' v z := by
  obtain ⟨A, c, e, h1, h2, h3⟩ := h
  exact ⟨A, c, e, h1, h2, h3.more hb⟩
theorem BV.later (h : BV w w.heap.size v z) (hb : Below w.heap.size w w') : BV w' w'.heap.size v z := (h.below hb).more hb.size
theorem BV.drewN (h : BV w B v z) (n : Nat) : BV (w.drewN n) B v z := h
theorem BV.zero (w : World) (B : Nat) : BV w B (.agg #[.int .i64 0, .slice none 0 0]) 0 := ⟨none, 0, by rw [sgn_zero, ab_zero, D_zero]; rfl, by rw [ab_zero, D_zero]; exact Nat.le_refl _, by omega, by rw [ab_zero, D_zero]; exact IntsAt.nil _ _ _⟩
end

theorem Blk.set2 {w : World} {g : Nat} {t : TypeId} {a0 a1 : Value} (h : Blk w g t #[a0, a1]) (b0 b1 : Value) : Blk ((w.setCell ⟨g, 0, none⟩ b0).setCell ⟨g, 1, none⟩ b1) g t #[b0, b1] := by
  simpa using (h.set_ 0 b0).set_ 1 b1

/-- What number makes of a slice: zero, or a sign and just this slice. -/
def Rz (z : Int) (A : Option Addr) (c : Nat) (r : Value) : Prop := (r = .agg #[.int .i64 0, .slice none 0 0] ∧ z = 0) ∨ r = .agg #[.int .i64 (sgn z), .slice A (D (ab z)).length c]
theorem Rz.form {z : Int} {A : Option Addr} {c : Nat} {r : Value} (h : Rz z A c r) : ∃ s' A' n' c', r = .agg #[.int .i64 s', .slice A' n' c'] := by
  rcases h with ⟨rfl, _⟩ | rfl
  · exact ⟨_, _, _, _, rfl⟩
  · exact ⟨_, _, _, _, rfl⟩
theorem Rz.bv {z : Int} {A : Option Addr} {c B : Nat} {r : Value} {w : World} (h : Rz z A c r) (hc : (D (ab z)).length ≤ c) (hcm : c ≤ 9223372036854775807) (hI : IntsAt B w A (D (ab z))) : BV w B r z := by
  rcases h with ⟨rfl, rfl⟩ | rfl
  · exact BV.zero _ _
  · exact ⟨A, c, rfl, hc, hcm, hI⟩

/-- A big integer that reads as z, whose digits the call owns from block B on. -/
def BO (w : World) (B : Nat) (r : Value) (z : Int) : Prop := ∃ v, r = .agg #[.int .i64 (sgn z), v] ∧ OwnI w B v (D (ab z))
theorem BO.zero (w : World) (B : Nat) : BO w B (.agg #[.int .i64 0, .slice none 0 0]) 0 := ⟨.slice none 0 0, by rw [sgn_zero], by rw [ab_zero, D_zero]; exact OwnI.nil _ _⟩
theorem BO.form {w : World} {B : Nat} {r : Value} {z : Int} (h : BO w B r z) : ∃ s' A' n' c', r = .agg #[.int .i64 s', .slice A' n' c'] := by
  obtain ⟨v, rfl, ho⟩ := h
  obtain ⟨A, c, rfl⟩ := ho.form
  exact ⟨_, _, _, _, rfl⟩
theorem BO.below {w w' : World} {B : Nat} {r : Value} {z : Int} (h : BO w B r z) (hb : Below w.heap.size w w') : BO w' B r z := by
  obtain ⟨v, rfl, ho⟩ := h
  exact ⟨v, rfl, ho.below hb⟩
theorem BO.mono {w : World} {B B' : Nat} {r : Value} {z : Int} (h : BO w B r z) (hb : B' ≤ B) : BO w B' r z := by
  obtain ⟨v, rfl, ho⟩ := h
  exact ⟨v, rfl, ho.mono hb⟩
theorem BO.bv {w : World} {B : Nat} {r : Value} {z : Int} (h : BO w B r z) : BV w w.heap.size r z := by
  obtain ⟨v, rfl, ho⟩ := h
  obtain ⟨A, c, rfl, h1, h2, h3⟩ := ho.at_
  exact ⟨A, c, rfl, h1, h2, h3⟩
theorem Rz.bo {z : Int} {A : Option Addr} {c B : Nat} {r : Value} {w : World} (h : Rz z A c r) (ho : OwnI w B (.slice A (D (ab z)).length c) (D (ab z))) : BO w B r z := by
  rcases h with ⟨rfl, rfl⟩ | rfl
  · exact BO.zero _ _
  · exact ⟨_, rfl, ho⟩

def NumP (z : Int) (A : Option Addr) (c : Nat) (w : World) (e : Ending) (w' : World) : Prop := ∃ r, e = .returned r ∧ Rz z A c r ∧ Below w.heap.size w w'
/-- What a result is where there is room for it, and its error. -/
def fitz (z : Int) : Int := if ab z < pw 60 then z else 0
def fite (z : Int) : Int := if ab z < pw 60 then 0 else 6
def FitP (z : Int) (A : Option Addr) (c : Nat) (w : World) (e : Ending) (w' : World) : Prop := ∃ r, e = .returned (.tuple #[r, .int .i64 (fite z)]) ∧ Rz (fitz z) A c r ∧ Below w.heap.size w w'

theorem Rz.fito {z : Int} {A : Option Addr} {c B : Nat} {r : Value} {w : World} (h : Rz (fitz z) A c r) (ho : OwnI w B (.slice A (D (ab z)).length c) (D (ab z))) : BO w B r (fitz z) := by
  unfold fitz at h ⊢
  split at h
  · rename_i h6
    rw [if_pos h6]; exact h.bo ho
  · rename_i h6
    rw [if_neg h6]
    refine h.bo ?_
    rw [ab_zero, D_zero]
    exact OwnI.cut (k := 0) ho rfl (Nat.zero_le _)

theorem ab_of_nil {z : Int} (h : (D (ab z)).length = 0) : z = 0 := by
  rcases Int.lt_or_le 0 (ab z) with h' | h'
  · have := D_len_pos h'; omega
  · unfold ab at h'; omega

set_option maxRecDepth 100000 in
set_option maxHeartbeats 1000000 in
theorem number_any (z s : Int) (A : Option Addr) (c : Nat) (w : World) (hs : z ≠ 0 → s = sgn z) :
    Calls Tryz.prog 77 #[.int .i64 s, .slice A (D (ab z)).length c] w (NumP z A c w) := by
  have hb : ∀ v, Below w.heap.size w (w.alloc (.cells v 39)) := fun v => (Below.refl _ _).alloc (Nat.le_refl _) _
  have HB := Lib.hid hb; clear hb
  by_cases h0 : (D (ab z)).length = 0
  · have hz := ab_of_nil h0
    subst hz
    rw [h0]
    clear hs h0
    go_enter Tryz.func77, Tryz.ntmps77
    go_wp2_with fail
    refine bodyPost_ret (v := .agg #[.int .i64 0, .slice none 0 0]) (by simp [results, Tryz.results77, go_sem]) rfl ?_
    exact ⟨_, rfl, .inl ⟨rfl, rfl⟩, HB.out _⟩
  · have hz : z ≠ 0 := fun h => h0 (by rw [h, ab_zero, D_zero]; rfl)
    have hsz := hs hz
    have hrz : Rz z A c (.agg #[.int .i64 s, .slice A (D (ab z)).length c]) := .inr (by rw [hsz])
    obtain ⟨n, hn⟩ : ∃ n, (D (ab z)).length = n := ⟨_, rfl⟩
    rw [hn] at h0 hrz ⊢
    have hn0 : ((n : Int) == 0) = false := by simp; omega
    have HRZ := Lib.hid hrz
    clear hn hs hsz hrz hz
    go_enter Tryz.func77, Tryz.ntmps77
    go_wp2_with fail
    refine bodyPost_ret (v := .agg #[.int .i64 s, .slice A n c]) (by simp [results, Tryz.results77, go_sem]) rfl ?_
    exact ⟨_, rfl, HRZ.out, HB.out _⟩

set_option maxRecDepth 100000 in
set_option maxHeartbeats 1000000 in
theorem fitting_any (z s : Int) (A : Option Addr) (c : Nat) (w : World) (hs : z ≠ 0 → s = sgn z) :
    Calls Tryz.prog 90 #[.int .i64 s, .slice A (D (ab z)).length c] w (FitP z A c w) := by
  have hb : ∀ v, Below w.heap.size w (w.alloc (.cells v 39)) := fun v => (Below.refl _ _).alloc (Nat.le_refl _) _
  have HB := Lib.hid hb; clear hb
  have hnum := fun w' => number_any z s A c w' hs
  by_cases h6 : ab z < pw 60
  · have hl := (D_len_le (ab_nonneg z)).2 h6
    have hz : fitz z = z := if_pos h6
    have he : fite z = 0 := if_pos h6
    unfold FitP
    rw [hz, he]
    obtain ⟨n, hn⟩ : ∃ n, (D (ab z)).length = n := ⟨_, rfl⟩
    rw [hn] at hl hnum ⊢
    have HNUM := Lib.hid hnum; clear hnum
    clear hn hz he hs h6
    go_enter Tryz.func90, Tryz.ntmps90
    go_wp2_with fail
    refine (HNUM.out _).mono ?_
    rintro e w1 ⟨r, rfl, hr, hb1⟩
    have HR := Lib.hid hr
    obtain ⟨s', A', n', c', rfl⟩ := hr.form
    clear hr
    have hbk : Blk w1 w.heap.size 39 #[.int .i64 0, .slice none 0 0] := (Blk.new w 39 _).below hb1 (by simp)
    have hc0 : w1.cell? ⟨w.heap.size, 0, none⟩ = some (.int .i64 0) := hbk.cell 0
    have hc1 : w1.cell? ⟨w.heap.size, 1, none⟩ = some (.slice none 0 0) := hbk.cell 1
    have hf0 := hbk.frozen 0
    have hf1 := hbk.frozen 1
    have hb2 : Below w.heap.size w w1 := (HB.out _).trans (hb1.mono (by simp))
    have hbs := hbk.set2 (.int .i64 s') (.slice A' n' c')
    have hd0 := hbs.cell 0
    have hd1 := hbs.cell 1
    simp at hd0 hd1
    have hb3 := (hb2.setCell (p := ⟨w.heap.size, 0, none⟩) (Nat.le_refl _) (.int .i64 s')).setCell (p := ⟨w.heap.size, 1, none⟩) (Nat.le_refl _) (.slice A' n' c')
    go_wp2_with fail
    refine bodyPost_ret (v := .tuple #[.agg #[.int .i64 s', .slice A' n' c'], .int .i64 0]) (by simp [results, Tryz.results90, go_sem, hd0, hd1]) rfl ?_
    exact ⟨_, rfl, HR.out, hb3⟩
  · have hl := (D_len_lt (ab_nonneg z) (k := 60)).2 (by omega)
    have hz : fitz z = 0 := if_neg h6
    have he : fite z = 6 := if_neg h6
    unfold FitP
    rw [hz, he]
    obtain ⟨n, hn⟩ : ∃ n, (D (ab z)).length = n := ⟨_, rfl⟩
    rw [hn] at hl ⊢
    clear hn hz he hs h6 hnum
    go_enter Tryz.func90, Tryz.ntmps90
    go_wp2_with fail
    refine bodyPost_ret (v := .tuple #[.agg #[.int .i64 0, .slice none 0 0], .int .i64 6]) (by simp [results, Tryz.results90, go_sem]) rfl ?_
    exact ⟨_, rfl, .inl ⟨rfl, rfl⟩, HB.out _⟩

/-- A result that the call owns, behind a store into another block. -/
theorem OwnI.far {w : World} {B g k : Nat} {v : Value} {l : List Int} (h : OwnI w B v l) (hg : g < B) (u : Value) : OwnI (w.setCell ⟨g, k, none⟩ u) B v l :=
  OwnI.grown (row := some g) h (grown_set (World.grownBy.refl _ _) _) (by
    rcases hv : v.ownBlock with _ | j
    · exact .inl rfl
    · refine .inr ?_
      have := (World.ownsRow.lt h j hv).1
      simp; omega)
theorem BO.far2 {w : World} {B g : Nat} {r : Value} {z : Int} (h : BO w B r z) (hg : g < B) (u u' : Value) : BO ((w.setCell ⟨g, 0, none⟩ u).setCell ⟨g, 1, none⟩ u') B r z := by
  obtain ⟨v, rfl, ho⟩ := h
  exact ⟨v, rfl, (ho.far hg u).far hg u'⟩
theorem OwnI.far2 {w : World} {B g : Nat} {v : Value} {l : List Int} (h : OwnI w B v l) (hg : g < B) (u u' : Value) : OwnI ((w.setCell ⟨g, 0, none⟩ u).setCell ⟨g, 1, none⟩ u') B v l := (h.far hg u).far hg u'

def OfP (z : Int) (w : World) (e : Ending) (w' : World) : Prop := ∃ r, e = .returned r ∧ BO w' w.heap.size r z ∧ Below w.heap.size w w'

set_option maxRecDepth 100000 in
set_option maxHeartbeats 1000000 in
theorem of_any (z : Int) (w : World) (h0 : -9223372036854775808 ≤ z) (h1 : z ≤ 9223372036854775807) : Calls Tryz.prog 56 #[.int .i64 z] w (OfP z w) := by
  have hb : ∀ v, Below w.heap.size w (w.alloc (.cells v 39)) := fun v => (Below.refl _ _).alloc (Nat.le_refl _) _
  have HB := Lib.hid hb; clear hb
  have hsp := fun w' => split_any (ab z) w' (ab_nonneg z) (by unfold ab; omega)
  have HSP := Lib.hid hsp; clear hsp
  by_cases hz : z < 0
  · have hab : ab z = -z := by unfold ab; omega
    have hnum := fun w' A c => number_any z (-1) A c w' (fun _ => (sgn_of_neg hz).symm)
    have HNUM := Lib.hid hnum; clear hnum
    have HAB := Lib.hid hab; clear hab
    go_enter Tryz.func56, Tryz.ntmps56
    go_wp2_with fail
    rw [show IntKind.u64.wrap (-IntKind.u64.wrap z) = ab z by rw [HAB.out, IntKind.wrap_u64, IntKind.wrap_u64]; omega]
    refine (HSP.out _).mono ?_
    rintro e w1 ⟨v1, rfl, hown, hb1⟩
    obtain ⟨A1, c1, rfl, hc1, hm1, _⟩ := hown.at_
    have hnm := HNUM.out w1 A1 c1
    have HC1 := Lib.hid hc1; clear hc1
    obtain ⟨n1, hn1⟩ : ∃ n, (D (ab z)).length = n := ⟨_, rfl⟩
    have HN1 := Lib.hid hn1
    rw [hn1] at hnm ⊢
    clear hn1
    have hbk : Blk w1 w.heap.size 39 #[.int .i64 0, .slice none 0 0] := (Blk.new w 39 _).below hb1 (by simp)
    have hb01 : Below w.heap.size w w1 := (HB.out _).trans (hb1.mono (by simp))
    have hs1 := hb1.size
    go_wp2_with fail
    refine hnm.mono ?_
    rintro e w2 ⟨r, rfl, hr, hb2⟩
    have HR := Lib.hid hr
    obtain ⟨s', A', n', c', rfl⟩ := hr.form
    clear hr
    have hbk2 := hbk.below hb2 (by simp at hs1; omega)
    have hc0 : w2.cell? ⟨w.heap.size, 0, none⟩ = some (.int .i64 0) := hbk2.cell 0
    have hc1 : w2.cell? ⟨w.heap.size, 1, none⟩ = some (.slice none 0 0) := hbk2.cell 1
    have hf0 := hbk2.frozen 0
    have hf1 := hbk2.frozen 1
    have hbs := hbk2.set2 (.int .i64 s') (.slice A' n' c')
    have hd0 := hbs.cell 0
    have hd1 := hbs.cell 1
    simp at hd0 hd1
    have hb02 := hb01.trans (hb2.mono hb01.size)
    have hb3 := (hb02.setCell (p := ⟨w.heap.size, 0, none⟩) (Nat.le_refl _) (.int .i64 s')).setCell (p := ⟨w.heap.size, 1, none⟩) (Nat.le_refl _) (.slice A' n' c')
    have hof := (hown.below hb2).far2 (g := w.heap.size) (by simp) (.int .i64 s') (.slice A' n' c')
    go_wp2_with fail
    refine bodyPost_ret (v := .agg #[.int .i64 s', .slice A' n' c']) (by simp [results, Tryz.results56, go_sem, hd0, hd1]) rfl ?_
    refine ⟨_, rfl, ?_, hb3⟩
    exact HR.out.bo (hof.mono (by simp))
  · have hab : ab z = z := by unfold ab; omega
    have hnum := fun w' A c => number_any z 1 A c w' (fun h => (sgn_pos (by omega)).symm)
    have HNUM := Lib.hid hnum; clear hnum
    have HAB := Lib.hid hab; clear hab
    go_enter Tryz.func56, Tryz.ntmps56
    go_wp2_with fail
    have hzz := HSP.out (w.alloc (.cells #[.int .i64 0, .slice none 0 0] 39))
    rw [HAB.out] at hzz
    have HZZ := Lib.hid hzz; clear hzz HSP
    obtain ⟨HSP, _⟩ : (Hid (∀ _ : Unit, Calls Tryz.prog 80 #[.int .u64 z] (w.alloc (.cells #[.int .i64 0, .slice none 0 0] 39)) fun e w' => ∃ v', e = .returned v' ∧ OwnI w' (w.alloc (.cells #[.int .i64 0, .slice none 0 0] 39)).heap.size v' (D z) ∧ Below (w.alloc (.cells #[.int .i64 0, .slice none 0 0] 39)).heap.size (w.alloc (.cells #[.int .i64 0, .slice none 0 0] 39)) w')) ∧ True := ⟨Lib.hid fun _ => HZZ.out, trivial⟩
    refine (HSP.out ()).mono ?_
    rintro e w1 ⟨v1, rfl, hown, hb1⟩
    obtain ⟨A1, c1, rfl, hc1, hm1, _⟩ := hown.at_
    rw [← HAB.out] at hown hc1 ⊢
    have hnm := HNUM.out w1 A1 c1
    have HC1 := Lib.hid hc1; clear hc1
    obtain ⟨n1, hn1⟩ : ∃ n, (D (ab z)).length = n := ⟨_, rfl⟩
    have HN1 := Lib.hid hn1
    rw [hn1] at hnm ⊢
    clear hn1
    have hbk : Blk w1 w.heap.size 39 #[.int .i64 0, .slice none 0 0] := (Blk.new w 39 _).below hb1 (by simp)
    have hb01 : Below w.heap.size w w1 := (HB.out _).trans (hb1.mono (by simp))
    have hs1 := hb1.size
    go_wp2_with fail
    refine hnm.mono ?_
    rintro e w2 ⟨r, rfl, hr, hb2⟩
    have HR := Lib.hid hr
    obtain ⟨s', A', n', c', rfl⟩ := hr.form
    clear hr
    have hbk2 := hbk.below hb2 (by simp at hs1; omega)
    have hc0 : w2.cell? ⟨w.heap.size, 0, none⟩ = some (.int .i64 0) := hbk2.cell 0
    have hc1 : w2.cell? ⟨w.heap.size, 1, none⟩ = some (.slice none 0 0) := hbk2.cell 1
    have hf0 := hbk2.frozen 0
    have hf1 := hbk2.frozen 1
    have hbs := hbk2.set2 (.int .i64 s') (.slice A' n' c')
    have hd0 := hbs.cell 0
    have hd1 := hbs.cell 1
    simp at hd0 hd1
    have hb02 := hb01.trans (hb2.mono hb01.size)
    have hb3 := (hb02.setCell (p := ⟨w.heap.size, 0, none⟩) (Nat.le_refl _) (.int .i64 s')).setCell (p := ⟨w.heap.size, 1, none⟩) (Nat.le_refl _) (.slice A' n' c')
    have hof := (hown.below hb2).far2 (g := w.heap.size) (by simp) (.int .i64 s') (.slice A' n' c')
    go_wp2_with fail
    refine bodyPost_ret (v := .agg #[.int .i64 s', .slice A' n' c']) (by simp [results, Tryz.results56, go_sem, hd0, hd1]) rfl ?_
    refine ⟨_, rfl, ?_, hb3⟩
    exact HR.out.bo (hof.mono (by simp))

end Go.Proofs.YtgpmmpajnfbecaaGreat
