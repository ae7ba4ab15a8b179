/- Walks: common. -/
import Derived.Test.YtofndidngjglmaaDoorO
import Derived.Deep.LoopGhost
namespace Go.Proofs.YtofndidngjglmaaDoor
open Go.RowKit

theorem Sl.drewN {w : World} {B : Nat} {v : Value} {l : List Int} (h : Sl w B v l) (n : Nat) : Sl (w.drewN n) B v l := h
theorem below_drewN {B : Nat} {w w' : World} (h : Below B w w') (n : Nat) : Below B w (w'.drewN n) := ⟨h.os, h.tape, h.output, h.size, h.block⟩

set_option maxRecDepth 100000 in
set_option maxHeartbeats 2000000 in
theorem common_any (X Y : Int) (Aa Ab : Option Addr) (ca cb : Nat) (w : World) (hIa : IntsAt w.heap.size w Aa (D X)) (hIb : IntsAt w.heap.size w Ab (D Y)) (hca : (D X).length ≤ ca) (hcb : (D Y).length ≤ cb) (hcm : ca ≤ 9223372036854775807) (hcm2 : cb ≤ 9223372036854775807) (hX : 0 ≤ X) (hY : 0 ≤ Y) (hla : (D X).length ≤ 150) (hlb : (D Y).length ≤ 150) :
    Calls Tryd.prog 37 #[.slice Aa (D X).length ca, .slice Ab (D Y).length cb] w fun e w' => ∃ v, e = .returned v ∧ OwnI w' w.heap.size v (D (Int.gcd X Y)) ∧ Below w.heap.size w w' := by
  have hord := order_any X Y Aa Ab ca cb w w.heap.size hIa hIb hX hY (by omega) (by omega)
  have hsa : Sl w w.heap.size (.slice Aa (D X).length ca) (D X) := ⟨Aa, ca, rfl, hca, hcm, hIa⟩
  have hsb : Sl w w.heap.size (.slice Ab (D Y).length cb) (D Y) := ⟨Ab, cb, rfl, hcb, hcm2, hIb⟩
  have hxm : X < pw 150 := (D_len_le hX).1 hla
  have hym : Y < pw 150 := (D_len_le hY).1 hlb
  obtain ⟨n, hn⟩ : ∃ n, (D X).length = n := ⟨_, rfl⟩
  obtain ⟨nb, hnb⟩ : ∃ n, (D Y).length = n := ⟨_, rfl⟩
  rw [hn] at hord hsa ⊢
  rw [hnb] at hord hsb ⊢
  obtain ⟨G, hG⟩ : ∃ G, Int.gcd X Y = G := ⟨_, rfl⟩
  rw [hG]
  have HSA := Lib.hid hsa; clear hsa
  have HSB := Lib.hid hsb; clear hsb
  have HXM := Lib.hid hxm; clear hxm
  have HYM := Lib.hid hym; clear hym
  have HG := Lib.hid hG; clear hG
  clear hn hnb hIa hIb hca hcb hla hlb
  by_cases hlt : X < Y
  · have hcmp : Lib.compareInt X Y = -1 := by unfold Lib.compareInt; rw [if_pos hlt]
    rw [hcmp] at hord
    have HO := Lib.hid hord; clear hord hcmp
    go_enter Tryd.func37, Tryd.ntmps37
    go_wp2_with fail
    refine HO.out.mono ?_
    rintro e w1 ⟨rfl, q, rfl⟩
    go_wp2_with fail
    go_loopg [0, 1] (X).toNat (fun g va vb wr => ∃ X' Y' : Int, g = Y'.toNat ∧ Sl wr wr.heap.size va (D X') ∧ Sl wr wr.heap.size vb (D Y') ∧ 0 ≤ Y' ∧ Y' ≤ X' ∧ Hid (X' < pw 150) ∧ Hid (Int.gcd X' Y' = G) ∧ Below w.heap.size w wr)
    case atStart => exact ⟨Y, X, rfl, HSB.out.drewN _, HSA.out.drewN _, hX, by omega, HYM, Lib.hid (by rw [Int.gcd_comm]; exact HG.out), below_drewN (Below.refl _ _) _⟩
    case round =>
      obtain ⟨X', Y', hg, ⟨A1, c1, rfl, hc1, hm1, hI1⟩, ⟨A2, c2, rfl, hc2, hm2, hI2⟩, h0, h1, hxm, hgc, hbw⟩ := hrel
      have hs := hbw.size
      have hlx : (D X').length ≤ 150 := (D_len_le (by omega)).2 hxm.out
      have hly : (D Y').length ≤ 150 := (D_len_le h0).2 (by have := hxm.out; omega)
      by_cases h3 : 2 < (D Y').length
      · have hcl := closer_any X' Y' A1 A2 c1 c2 wr hI1 hI2 hc1 hc2 hm2 h0 h1 (by omega) hlx
        obtain ⟨n1, hn1⟩ : ∃ n, (D X').length = n := ⟨_, rfl⟩
        obtain ⟨n2, hn2⟩ : ∃ n, (D Y').length = n := ⟨_, rfl⟩
        rw [hn1] at hcl ⊢
        rw [hn2] at hcl h3 ⊢
        have HCL := Lib.hid hcl; clear hcl
        clear hn1 hn2 hc1 hc2 hlx hly hI1 hI2
        subst hg
        go_wp2_with fail
        refine HCL.out.mono ?_
        rintro e w5 ⟨v1, v2, X2, Y2, rfl, hv1, hv2, g1, g2, g3, g4, g5, hb5⟩
        have G5 := Lib.hid g5; clear g5
        go_wp2_with fail
        go_roundg Y2.toNat
        case measure => omega
        case rel => exact ⟨X2, Y2, rfl, hv1, hv2, g1, g2, Lib.hid (by have := hxm.out; omega), Lib.hid (by rw [G5.out, hgc.out]), hbw.trans (hb5.mono hs)⟩
      · by_cases h4 : (D Y').length = 0
        · have hy0 : Y' = 0 := by
            rcases Int.lt_or_le 0 Y' with h | h
            · have := D_len_pos h; omega
            · omega
          have hcl := clone_any (D X') A1 c1 wr hI1 (by omega)
          have hG0 : (G : Int) = X' := by rw [← hgc.out, hy0, Int.gcd_zero_right]; omega
          rw [h4] at h3 ⊢
          obtain ⟨n1, hn1⟩ : ∃ n, (D X').length = n := ⟨_, rfl⟩
          rw [hn1] at hcl ⊢
          have HCL := Lib.hid hcl; clear hcl
          have HG0 := Lib.hid hG0; clear hG0 hy0
          clear hn1 hc1 hc2 hlx hly hI1 hI2 h4
          go_wp2_with fail
          refine HCL.out.mono ?_
          rintro e w5 ⟨v1, rfl, hv1, hb5⟩
          go_wp2_with fail
          go_ret
          exact ⟨v1, rfl, by rw [HG0.out]; exact hv1.mono hs, hbw.trans (hb5.mono hs)⟩
        · have hy1 : 1 ≤ Y' := by
            rcases Int.lt_or_le 0 Y' with h | h
            · omega
            · rw [D_np h] at h4; simp at h4
          have hy2 : Y' < 1099511627776 := by
            have := (D_len_le h0 (k := 2)).1 (by omega)
            rw [show pw 2 = 1099511627776 by decide] at this
            exact this
          have hj := join_any A2 c2 (D Y') wr hI2 (Dig_D _) (by omega) (by rw [nv_D h0]; omega)
          rw [nv_D h0] at hj
          have hds := fun (w1 : World) (hb : Below wr.heap.size wr w1) => divideShort_any (D X') A1 c1 Y' w1 ((hI1.below hb).more hb.size) (Dig_D _) (by omega) hy1 (by omega)
          rw [nv_D (by omega)] at hds
          have hm0 := Int.emod_nonneg X' (b := Y') (by omega)
          have hm1 := Int.emod_lt_of_pos X' (b := Y') (by omega)
          have hgm : Int.gcd Y' (X' % Y') = G := by rw [← hgc.out, Int.emod_def, Int.mul_comm, Int.gcd_sub_mul_right_right, Int.gcd_comm]
          obtain ⟨r, hr⟩ : ∃ r, X' % Y' = r := ⟨_, rfl⟩
          rw [hr] at hm0 hm1 hds hgm
          obtain ⟨n1, hn1⟩ : ∃ n, (D X').length = n := ⟨_, rfl⟩
          obtain ⟨n2, hn2⟩ : ∃ n, (D Y').length = n := ⟨_, rfl⟩
          rw [hn1] at hds ⊢
          rw [hn2] at hj h3 h4 ⊢
          have hn2' : ((n2 : Int) == 0) = false := by simp; omega
          have HJ := Lib.hid hj; clear hj
          have HDS := Lib.hid hds; clear hds
          have HGM := Lib.hid hgm; clear hgm
          clear hn1 hn2 hr hc1 hc2 hlx hly hI1 hI2 hg
          go_wp2_with fail
          refine HJ.out.mono ?_
          rintro e w5 ⟨rfl, hb5⟩
          go_wp2_with fail
          refine (HDS.out w5 hb5).mono ?_
          rintro e w6 ⟨v6, rfl, hown6, hb6⟩
          have hb06 := hbw.trans ((hb5.trans (hb6.mono hb5.size)).mono hs)
          clear hown6 HDS HJ hbw hb5 hb6 hxm hgc
          go_wp2_with fail
          go_loopg [5, 7] r.toNat (fun g xv yv wr => ∃ x y : Int, g = y.toNat ∧ xv = .int .i64 x ∧ yv = .int .i64 y ∧ 1 ≤ x ∧ x < 1099511627776 ∧ 0 ≤ y ∧ y < 1099511627776 ∧ Hid (Int.gcd x y = G) ∧ Below w.heap.size w wr)
          case atStart => exact ⟨Y', r, rfl, rfl, rfl, hy1, hy2, hm0, by omega, HGM, hb06⟩
          case round =>
            obtain ⟨x, y, hg, rfl, rfl, x0, x1, y0, y1, hgc, hbr⟩ := hrel
            subst hg
            by_cases hyp : 0 < y
            · have hz : (y == 0) = false := by simp; omega
              have hm0 := Int.emod_nonneg x (b := y) (by omega)
              have hm1 := Int.emod_lt_of_pos x (b := y) (by omega)
              have hgm : Int.gcd y (x % y) = G := by rw [← hgc.out, Int.emod_def, Int.mul_comm, Int.gcd_sub_mul_right_right, Int.gcd_comm]
              have hm2 : x.tmod y = x % y := Int.tmod_eq_emod_of_nonneg (by omega)
              have HGM2 := Lib.hid hgm; clear hgm
              go_wp2_with fail
              go_quiet (fail)
              go_wp2_with fail
              go_roundg (x % y).toNat
              case measure => omega
              case rel => exact ⟨y, x % y, rfl, rfl, by first | rfl | rw [hm2], by omega, y1, hm0, by omega, HGM2, below_drewN hbr _⟩
            · have : y = 0 := by omega
              subst this
              have hG0 : (G : Int) = x := by rw [← hgc.out, Int.gcd_zero_right]; omega
              have HG0 := Lib.hid hG0; clear hG0
              have hs2 := hbr.size
              go_wp2_with fail
              refine (split_any x _ (by omega) (by omega)).mono ?_
              rintro e w7 ⟨v7, rfl, hown7, hb7⟩
              go_wp2_with fail
              go_ret
              exact ⟨v7, rfl, by rw [HG0.out]; exact hown7.mono hs2, hbr.trans (hb7.mono hs2)⟩
  · have hcmp : 0 ≤ Lib.compareInt X Y := by unfold Lib.compareInt; split <;> (try split) <;> omega
    obtain ⟨z, hz⟩ : ∃ z, Lib.compareInt X Y = z := ⟨_, rfl⟩
    rw [hz] at hord hcmp
    have HO := Lib.hid hord; clear hord hz
    go_enter Tryd.func37, Tryd.ntmps37
    go_wp2_with fail
    refine HO.out.mono ?_
    rintro e w1 ⟨rfl, q, rfl⟩
    go_wp2_with fail
    go_loopg [0, 1] (Y).toNat (fun g va vb wr => ∃ X' Y' : Int, g = Y'.toNat ∧ Sl wr wr.heap.size va (D X') ∧ Sl wr wr.heap.size vb (D Y') ∧ 0 ≤ Y' ∧ Y' ≤ X' ∧ Hid (X' < pw 150) ∧ Hid (Int.gcd X' Y' = G) ∧ Below w.heap.size w wr)
    case atStart => exact ⟨X, Y, rfl, HSA.out.drewN _, HSB.out.drewN _, hY, by omega, HXM, HG, below_drewN (Below.refl _ _) _⟩
    case round =>
      obtain ⟨X', Y', hg, ⟨A1, c1, rfl, hc1, hm1, hI1⟩, ⟨A2, c2, rfl, hc2, hm2, hI2⟩, h0, h1, hxm, hgc, hbw⟩ := hrel
      have hs := hbw.size
      have hlx : (D X').length ≤ 150 := (D_len_le (by omega)).2 hxm.out
      have hly : (D Y').length ≤ 150 := (D_len_le h0).2 (by have := hxm.out; omega)
      by_cases h3 : 2 < (D Y').length
      · have hcl := closer_any X' Y' A1 A2 c1 c2 wr hI1 hI2 hc1 hc2 hm2 h0 h1 (by omega) hlx
        obtain ⟨n1, hn1⟩ : ∃ n, (D X').length = n := ⟨_, rfl⟩
        obtain ⟨n2, hn2⟩ : ∃ n, (D Y').length = n := ⟨_, rfl⟩
        rw [hn1] at hcl ⊢
        rw [hn2] at hcl h3 ⊢
        have HCL := Lib.hid hcl; clear hcl
        clear hn1 hn2 hc1 hc2 hlx hly hI1 hI2
        subst hg
        go_wp2_with fail
        refine HCL.out.mono ?_
        rintro e w5 ⟨v1, v2, X2, Y2, rfl, hv1, hv2, g1, g2, g3, g4, g5, hb5⟩
        have G5 := Lib.hid g5; clear g5
        go_wp2_with fail
        go_roundg Y2.toNat
        case measure => omega
        case rel => exact ⟨X2, Y2, rfl, hv1, hv2, g1, g2, Lib.hid (by have := hxm.out; omega), Lib.hid (by rw [G5.out, hgc.out]), hbw.trans (hb5.mono hs)⟩
      · by_cases h4 : (D Y').length = 0
        · have hy0 : Y' = 0 := by
            rcases Int.lt_or_le 0 Y' with h | h
            · have := D_len_pos h; omega
            · omega
          have hcl := clone_any (D X') A1 c1 wr hI1 (by omega)
          have hG0 : (G : Int) = X' := by rw [← hgc.out, hy0, Int.gcd_zero_right]; omega
          rw [h4] at h3 ⊢
          obtain ⟨n1, hn1⟩ : ∃ n, (D X').length = n := ⟨_, rfl⟩
          rw [hn1] at hcl ⊢
          have HCL := Lib.hid hcl; clear hcl
          have HG0 := Lib.hid hG0; clear hG0 hy0
          clear hn1 hc1 hc2 hlx hly hI1 hI2 h4
          go_wp2_with fail
          refine HCL.out.mono ?_
          rintro e w5 ⟨v1, rfl, hv1, hb5⟩
          go_wp2_with fail
          go_ret
          exact ⟨v1, rfl, by rw [HG0.out]; exact hv1.mono hs, hbw.trans (hb5.mono hs)⟩
        · have hy1 : 1 ≤ Y' := by
            rcases Int.lt_or_le 0 Y' with h | h
            · omega
            · rw [D_np h] at h4; simp at h4
          have hy2 : Y' < 1099511627776 := by
            have := (D_len_le h0 (k := 2)).1 (by omega)
            rw [show pw 2 = 1099511627776 by decide] at this
            exact this
          have hj := join_any A2 c2 (D Y') wr hI2 (Dig_D _) (by omega) (by rw [nv_D h0]; omega)
          rw [nv_D h0] at hj
          have hds := fun (w1 : World) (hb : Below wr.heap.size wr w1) => divideShort_any (D X') A1 c1 Y' w1 ((hI1.below hb).more hb.size) (Dig_D _) (by omega) hy1 (by omega)
          rw [nv_D (by omega)] at hds
          have hm0 := Int.emod_nonneg X' (b := Y') (by omega)
          have hm1 := Int.emod_lt_of_pos X' (b := Y') (by omega)
          have hgm : Int.gcd Y' (X' % Y') = G := by rw [← hgc.out, Int.emod_def, Int.mul_comm, Int.gcd_sub_mul_right_right, Int.gcd_comm]
          obtain ⟨r, hr⟩ : ∃ r, X' % Y' = r := ⟨_, rfl⟩
          rw [hr] at hm0 hm1 hds hgm
          obtain ⟨n1, hn1⟩ : ∃ n, (D X').length = n := ⟨_, rfl⟩
          obtain ⟨n2, hn2⟩ : ∃ n, (D Y').length = n := ⟨_, rfl⟩
          rw [hn1] at hds ⊢
          rw [hn2] at hj h3 h4 ⊢
          have hn2' : ((n2 : Int) == 0) = false := by simp; omega
          have HJ := Lib.hid hj; clear hj
          have HDS := Lib.hid hds; clear hds
          have HGM := Lib.hid hgm; clear hgm
          clear hn1 hn2 hr hc1 hc2 hlx hly hI1 hI2 hg
          go_wp2_with fail
          refine HJ.out.mono ?_
          rintro e w5 ⟨rfl, hb5⟩
          go_wp2_with fail
          refine (HDS.out w5 hb5).mono ?_
          rintro e w6 ⟨v6, rfl, hown6, hb6⟩
          have hb06 := hbw.trans ((hb5.trans (hb6.mono hb5.size)).mono hs)
          clear hown6 HDS HJ hbw hb5 hb6 hxm hgc
          go_wp2_with fail
          go_loopg [5, 7] r.toNat (fun g xv yv wr => ∃ x y : Int, g = y.toNat ∧ xv = .int .i64 x ∧ yv = .int .i64 y ∧ 1 ≤ x ∧ x < 1099511627776 ∧ 0 ≤ y ∧ y < 1099511627776 ∧ Hid (Int.gcd x y = G) ∧ Below w.heap.size w wr)
          case atStart => exact ⟨Y', r, rfl, rfl, rfl, hy1, hy2, hm0, by omega, HGM, hb06⟩
          case round =>
            obtain ⟨x, y, hg, rfl, rfl, x0, x1, y0, y1, hgc, hbr⟩ := hrel
            subst hg
            by_cases hyp : 0 < y
            · have hz : (y == 0) = false := by simp; omega
              have hm0 := Int.emod_nonneg x (b := y) (by omega)
              have hm1 := Int.emod_lt_of_pos x (b := y) (by omega)
              have hgm : Int.gcd y (x % y) = G := by rw [← hgc.out, Int.emod_def, Int.mul_comm, Int.gcd_sub_mul_right_right, Int.gcd_comm]
              have hm2 : x.tmod y = x % y := Int.tmod_eq_emod_of_nonneg (by omega)
              have HGM2 := Lib.hid hgm; clear hgm
              go_wp2_with fail
              go_quiet (fail)
              go_wp2_with fail
              go_roundg (x % y).toNat
              case measure => omega
              case rel => exact ⟨y, x % y, rfl, rfl, by first | rfl | rw [hm2], by omega, y1, hm0, by omega, HGM2, below_drewN hbr _⟩
            · have : y = 0 := by omega
              subst this
              have hG0 : (G : Int) = x := by rw [← hgc.out, Int.gcd_zero_right]; omega
              have HG0 := Lib.hid hG0; clear hG0
              have hs2 := hbr.size
              go_wp2_with fail
              refine (split_any x _ (by omega) (by omega)).mono ?_
              rintro e w7 ⟨v7, rfl, hown7, hb7⟩
              go_wp2_with fail
              go_ret
              exact ⟨v7, rfl, by rw [HG0.out]; exact hown7.mono hs2, hbr.trans (hb7.mono hs2)⟩

end Go.Proofs.YtofndidngjglmaaDoor
