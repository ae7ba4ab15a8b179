/- Walks: the reference's Of. Printed by a program (rof4.py). Walks: the reference's Text. Printed by a program (rtext4.py). Walks: the reference's Add, Mul, Gcd and big's Add, Sub, Mul where an argument is not right. Printed by a program (rbad4.py) from Fc. -/
import Derived.Test.YtgpmmpajnfbecaaGreatXay
import Derived.Test.YtgpmmpajnfbecaaGreatXai
import Derived.Test.YtgpmmpajnfbecaaGreatXan

namespace Go.Proofs.YtgpmmpajnfbecaaGreat
open Go.RowKit

theorem of_step {l : List Int} {k : Nat} {X Z : Int} (hl : l.length = k) (h : nv l + pw k * X = Z) : nv (l ++ [X % 1048576]) + pw (k + 1) * (X / 1048576) = Z := by
  rw [nv_snoc, hl, pw_succ, ← h]
  have e1 : 1048576 * pw k * (X / 1048576) = pw k * (1048576 * (X / 1048576)) := by rw [Int.mul_comm 1048576, Int.mul_assoc]
  rw [e1]
  have e2 : pw k * (X % 1048576) + pw k * (1048576 * (X / 1048576)) = pw k * X := by rw [← Int.mul_add]; congr 1; omega
  omega
theorem of_neg_mod {X N : Int} (hX : 0 ≤ X) (hN : N = -X) : N.tmod 1048576 = -(X % 1048576) := by
  rw [hN, Int.neg_tmod, Int.tmod_eq_emod_of_nonneg hX]
theorem of_neg_div {X N : Int} (hX : 0 ≤ X) (hN : N = -X) : N.tdiv 1048576 = -(X / 1048576) := by
  rw [hN, Int.neg_tdiv, Int.tdiv_eq_ediv_of_nonneg hX]
theorem of_few {l : List Int} {k : Nat} {X Z : Int} (hd : Dig l) (h : nv l + pw k * X = Z) (hZ : Z ≤ 9223372036854775808) (hX : 0 < X) : k < 4 := by
  rcases Nat.lt_or_ge k 4 with g | g
  · exact g
  · have h1 := pw_le g
    have h2 := hd.nv_nonneg
    have h3 : pw k * 1 ≤ pw k * X := Int.mul_le_mul_of_nonneg_left (by omega) (by have := pw_pos k; omega)
    have h4 : pw 4 = 1208925819614629174706176 := by decide
    omega

set_option maxRecDepth 100000 in
set_option maxHeartbeats 4000000 in
theorem rof_any (z : Int) (w : World) (h0 : -9223372036854775808 ≤ z) (h1 : z ≤ 9223372036854775807) :
    Calls Tryz.prog 37 #[.int .i64 z] w fun e w' => ∃ r, e = .returned r ∧ BO w' w.heap.size r z ∧ Below w.heap.size w w' := by
  have hb0 := (Below.refl w.heap.size w).alloc (Nat.le_refl _) (.cells #[.int .i64 0, .slice none 0 0] 39)
  have k0 := Blk.new w 39 #[.int .i64 0, .slice none 0 0]
  have hs0 : (w.alloc (.cells #[.int .i64 0, .slice none 0 0] 39)).heap.size = w.heap.size + 1 := by simp
  obtain ⟨W, hW⟩ : ∃ W, w.alloc (.cells #[.int .i64 0, .slice none 0 0] 39) = W := ⟨_, rfl⟩
  have HWW := Lib.hid hW
  rw [hW] at hb0 k0 hs0
  clear hW
  have hlt : w.heap.size < W.heap.size := by omega
  rcases Int.lt_trichotomy z 0 with hz | hz | hz
  · have q1 : (z == 0) = false := by simpa using (show z ≠ 0 by omega)
    go_enter Tryz.func37, Tryz.ntmps37
    go_wp2_with fail
    rw [HWW.out]
    clear q1
    go_loopw [0, 4, 5] (fun nv' o dv wr => ∃ (k : Nat) (l : List Int) (X N : Int), nv' = .int .i64 N ∧ Hid (N = -X) ∧ 0 ≤ X ∧ OwnI wr W.heap.size o l ∧ Hid (l.length = k) ∧ Dig l ∧ Hid (nv l + pw k * X = -z) ∧ k ≤ 4 ∧ X ≤ 9223372036854775808 ∧ Below W.heap.size W wr) (fun nv' _ _ _ => (intOf nv').natAbs)
    case atStart => exact ⟨0, [], -z, z, rfl, Lib.hid (by omega), by omega, OwnI.nil _ _, Lib.hid rfl, Dig.nil, Lib.hid (by rw [nv_nil]; simp [pw]), by omega, by omega, Below.refl _ _⟩
    case round =>
      obtain ⟨k, l, X, N, rfl, hN, hX, hown, hlen, hdig, hv, hk, hXb, hbw⟩ := hrel
      have hs := hbw.size
      have hl9 : l.length ≤ 10000000 := by have := hlen.out; omega
      by_cases hgo : 0 < X
      · have hk4 := of_few hdig hv.out (by omega) hgo
        have hst := of_step hlen.out hv.out
        have hm : N.tmod 1048576 = -(X % 1048576) := of_neg_mod hX hN.out
        have hd : N.tdiv 1048576 = -(X / 1048576) := of_neg_div hX hN.out
        have hr0 := Int.emod_nonneg X (show (1048576 : Int) ≠ 0 by decide)
        have hr1 := Int.emod_lt_of_pos X (show (0 : Int) < 1048576 by decide)
        have hdn0 : 0 ≤ X / 1048576 := by omega
        have hdn1 : X / 1048576 < X := by omega
        have hNn : N.natAbs = X.toNat := by have := hN.out; omega
        obtain ⟨R, hR⟩ : ∃ R, X % 1048576 = R := ⟨_, rfl⟩
        obtain ⟨Y, hY⟩ : ∃ R, X / 1048576 = R := ⟨_, rfl⟩
        rw [hR] at hst hm hr0 hr1
        rw [hY] at hst hd hdn0 hdn1
        clear hR hY
        have q1 : (N != 0) = true := by have := hN.out; simp; omega
        have HST := Lib.hid hst; clear hst
        have HNN := Lib.hid hNn; clear hNn
        obtain ⟨M, hM⟩ : ∃ M, -R = M := ⟨_, rfl⟩
        obtain ⟨K, hK⟩ : ∃ M, -Y = M := ⟨_, rfl⟩
        rw [hM] at hm
        rw [hK] at hd
        have HM := Lib.hid hM; clear hM
        have HK := Lib.hid hK; clear hK
        have hKb : -9223372036854775808 ≤ K ∧ K ≤ 9223372036854775807 := by have := HK.out; omega
        have f1 : IntKind.i64.wrap K = K := IntWalk.i64_in _ hKb
        have f2 : IntKind.i64.wrap M = M := IntWalk.i64_in _ (by have := HM.out; omega)
        have f3 : IntKind.i64.wrap (-M) = -M := IntWalk.i64_in _ (by have := HM.out; omega)
        by_cases hM0 : M < 0
        · have q2 : decide (M < 0) = true := decide_eq_true hM0
          go_wp2_with (first
            | (at_builtin; refine appI rfl (.tmp 19) (.tmp 21) rfl W.heap.size _ l (-M) rfl hown rfl hl9 hs ?_; intro v1 w1 hown1 hb1))
          go_roundw
          case rel => exact ⟨k + 1, _, Y, K, rfl, Lib.hid (by have := HK.out; omega), hdn0, hown1, Lib.hid (by simp [hlen.out]), hdig.snoc (by have := HM.out; omega) (by have := HM.out; omega), Lib.hid (by rw [show -M = R by have := HM.out; omega]; exact HST.out), by omega, by omega, hbw.trans hb1⟩
          case measure => simp [intOf]; have := HK.out; have := HNN.out; omega
        · have hM00 : M = 0 := by have := HM.out; omega
          subst hM00
          go_wp2_with (first
            | (at_builtin; refine appI rfl (.tmp 19) (.tmp 21) rfl W.heap.size _ l 0 rfl hown rfl hl9 hs ?_; intro v1 w1 hown1 hb1))
          go_roundw
          case rel => exact ⟨k + 1, _, Y, K, rfl, Lib.hid (by have := HK.out; omega), hdn0, hown1, Lib.hid (by simp [hlen.out]), hdig.snoc (by have := HM.out; omega) (by have := HM.out; omega), Lib.hid (by rw [show (0 : Int) = R by have := HM.out; omega]; exact HST.out), by omega, by omega, hbw.trans hb1⟩
          case measure => simp [intOf]; have := HK.out; have := HNN.out; omega
      · have hX0 : X = 0 := by omega
        subst hX0
        have hN0 : N = 0 := by have := hN.out; omega
        subst hN0
        have hmd := rmade_any l (-1) z _ wr hown.sv hdig (by have := hlen.out; omega) (by have := hv.out; rw [Int.mul_zero] at this; omega) (.inr (.inl rfl))
        have HMD := Lib.hid hmd; clear hmd hown
        have hT := hb0.trans (hbw.mono hb0.size)
        have kR := k0.below hbw hlt
        have hltR := kR.lt
        clear hgo hN hv hlen
        go_wp2_with fail
        (with_reducible refine HMD.out.mono ?_)
        rintro e w5 ⟨r, rfl, hr, hb5⟩
        have hT := hT.trans (hb5.mono hT.size)
        have kR := kR.below hb5 hltR
        obtain ⟨s6, A6, n6, c6, rfl⟩ := hr.form
        have r0 := kR.cell 0
        have r1 := kR.cell 1
        have f0 := kR.frozen 0
        have f1 := kR.frozen 1
        simp at r0 r1
        have hbs := kR.set2 (.int .i64 s6) (.slice A6 n6 c6)
        have x0 := hbs.cell 0
        have x1 := hbs.cell 1
        simp at x0 x1
        go_wp2_with fail
        refine bodyPost_ret (v := .agg #[.int .i64 s6, .slice A6 n6 c6]) (by simp [results, Tryz.results37, go_sem, x0, x1]) rfl ?_
        exact ⟨_, rfl, (hr.far2 hltR _ _).mono (by omega), below_st hT (by omega) _ _⟩
  · subst hz
    go_enter Tryz.func37, Tryz.ntmps37
    go_wp2_with fail
    refine bodyPost_ret (v := .agg #[.int .i64 0, .slice none 0 0]) (by simp [results, Tryz.results37, go_sem]) rfl ?_
    exact ⟨_, rfl, BO.zero _ _, below_new (Below.refl _ _) _⟩
  · have q1 : (z == 0) = false := by simpa using (show z ≠ 0 by omega)
    go_enter Tryz.func37, Tryz.ntmps37
    go_wp2_with fail
    rw [HWW.out]
    clear q1
    go_loopw [0, 4, 5] (fun nv' o dv wr => ∃ (k : Nat) (l : List Int) (X N : Int), nv' = .int .i64 N ∧ Hid (N = X) ∧ 0 ≤ X ∧ OwnI wr W.heap.size o l ∧ Hid (l.length = k) ∧ Dig l ∧ Hid (nv l + pw k * X = z) ∧ k ≤ 4 ∧ X ≤ 9223372036854775808 ∧ Below W.heap.size W wr) (fun nv' _ _ _ => (intOf nv').natAbs)
    case atStart => exact ⟨0, [], z, z, rfl, Lib.hid (by omega), by omega, OwnI.nil _ _, Lib.hid rfl, Dig.nil, Lib.hid (by rw [nv_nil]; simp [pw]), by omega, by omega, Below.refl _ _⟩
    case round =>
      obtain ⟨k, l, X, N, rfl, hN, hX, hown, hlen, hdig, hv, hk, hXb, hbw⟩ := hrel
      have hs := hbw.size
      have hl9 : l.length ≤ 10000000 := by have := hlen.out; omega
      by_cases hgo : 0 < X
      · have hk4 := of_few hdig hv.out (by omega) hgo
        have hst := of_step hlen.out hv.out
        have hm : N.tmod 1048576 = X % 1048576 := by rw [hN.out]; exact Int.tmod_eq_emod_of_nonneg hX
        have hd : N.tdiv 1048576 = X / 1048576 := by rw [hN.out]; exact Int.tdiv_eq_ediv_of_nonneg hX
        have hr0 := Int.emod_nonneg X (show (1048576 : Int) ≠ 0 by decide)
        have hr1 := Int.emod_lt_of_pos X (show (0 : Int) < 1048576 by decide)
        have hdn0 : 0 ≤ X / 1048576 := by omega
        have hdn1 : X / 1048576 < X := by omega
        have hNn : N.natAbs = X.toNat := by have := hN.out; omega
        obtain ⟨R, hR⟩ : ∃ R, X % 1048576 = R := ⟨_, rfl⟩
        obtain ⟨Y, hY⟩ : ∃ R, X / 1048576 = R := ⟨_, rfl⟩
        rw [hR] at hst hm hr0 hr1
        rw [hY] at hst hd hdn0 hdn1
        clear hR hY
        have q1 : (N != 0) = true := by have := hN.out; simp; omega
        have HST := Lib.hid hst; clear hst
        have HNN := Lib.hid hNn; clear hNn
        obtain ⟨M, hM⟩ : ∃ M, R = M := ⟨_, rfl⟩
        obtain ⟨K, hK⟩ : ∃ M, Y = M := ⟨_, rfl⟩
        rw [hM] at hm
        rw [hK] at hd
        have HM := Lib.hid hM; clear hM
        have HK := Lib.hid hK; clear hK
        have hKb : -9223372036854775808 ≤ K ∧ K ≤ 9223372036854775807 := by have := HK.out; omega
        have f1 : IntKind.i64.wrap K = K := IntWalk.i64_in _ hKb
        have f2 : IntKind.i64.wrap M = M := IntWalk.i64_in _ (by have := HM.out; omega)
        have f3 : IntKind.i64.wrap (-M) = -M := IntWalk.i64_in _ (by have := HM.out; omega)
        · have q2 : decide (M < 0) = false := decide_eq_false (by have := HM.out; omega)
          go_wp2_with (first
            | (at_builtin; refine appI rfl (.tmp 19) (.tmp 21) rfl W.heap.size _ l M rfl hown rfl hl9 hs ?_; intro v1 w1 hown1 hb1))
          go_roundw
          case rel => exact ⟨k + 1, _, Y, K, rfl, Lib.hid (by have := HK.out; omega), hdn0, hown1, Lib.hid (by simp [hlen.out]), hdig.snoc (by have := HM.out; omega) (by have := HM.out; omega), Lib.hid (by rw [show M = R by have := HM.out; omega]; exact HST.out), by omega, by omega, hbw.trans hb1⟩
          case measure => simp [intOf]; have := HK.out; have := HNN.out; omega
      · have hX0 : X = 0 := by omega
        subst hX0
        have hN0 : N = 0 := by have := hN.out; omega
        subst hN0
        have hmd := rmade_any l (1) z _ wr hown.sv hdig (by have := hlen.out; omega) (by have := hv.out; rw [Int.mul_zero] at this; omega) (.inl rfl)
        have HMD := Lib.hid hmd; clear hmd hown
        have hT := hb0.trans (hbw.mono hb0.size)
        have kR := k0.below hbw hlt
        have hltR := kR.lt
        clear hgo hN hv hlen
        go_wp2_with fail
        (with_reducible refine HMD.out.mono ?_)
        rintro e w5 ⟨r, rfl, hr, hb5⟩
        have hT := hT.trans (hb5.mono hT.size)
        have kR := kR.below hb5 hltR
        obtain ⟨s6, A6, n6, c6, rfl⟩ := hr.form
        have r0 := kR.cell 0
        have r1 := kR.cell 1
        have f0 := kR.frozen 0
        have f1 := kR.frozen 1
        simp at r0 r1
        have hbs := kR.set2 (.int .i64 s6) (.slice A6 n6 c6)
        have x0 := hbs.cell 0
        have x1 := hbs.cell 1
        simp at x0 x1
        go_wp2_with fail
        refine bodyPost_ret (v := .agg #[.int .i64 s6, .slice A6 n6 c6]) (by simp [results, Tryz.results37, go_sem, x0, x1]) rfl ?_
        exact ⟨_, rfl, (hr.far2 hltR _ _).mono (by omega), below_st hT (by omega) _ _⟩

end Go.Proofs.YtgpmmpajnfbecaaGreat

namespace Go.Proofs.YtgpmmpajnfbecaaGreat
open Go.RowKit

/-- What is left to write of x's digits, and what is written. -/
def TxP (x X : Int) (S : List UInt8) : Prop := (0 < X ∧ Lib.decDigits x.toNat = Lib.decDigits X.toNat ++ S) ∨ (X = 0 ∧ Lib.decDigits x.toNat = S)
theorem TxP.start {x : Int} (h : 0 < x) : TxP x x [] := .inl ⟨h, by simp⟩
theorem TxP.step {x X : Int} {S : List UInt8} (h : TxP x X S) (hX : 0 < X) : TxP x (X / 10) (UInt8.ofNat (48 + (X % 10).toNat) :: S) := by
  rcases h with ⟨_, h⟩ | ⟨h, _⟩
  · have e1 : (X / 10).toNat = X.toNat / 10 := by omega
    have e2 : (X % 10).toNat = X.toNat % 10 := by omega
    by_cases g : X.toNat < 10
    · refine .inr ⟨by omega, ?_⟩
      rw [h, dd_lt g, e2, Nat.mod_eq_of_lt g]; rfl
    · refine .inl ⟨by omega, ?_⟩
      rw [h, dd_ge g, e1, e2, List.append_assoc]; rfl
  · omega
theorem TxP.done {x : Int} {S : List UInt8} (h : TxP x 0 S) : S = Lib.decDigits x.toNat := by
  rcases h with ⟨h, _⟩ | ⟨_, h⟩
  · omega
  · exact h.symm
theorem TxP.few {x X : Int} {S : List UInt8} (h : TxP x X S) : S.length ≤ (Lib.decDigits x.toNat).length := by
  rcases h with ⟨_, h⟩ | ⟨_, h⟩ <;> rw [h]
  · rw [List.length_append]; omega
  · exact Nat.le_refl _

end Go.Proofs.YtgpmmpajnfbecaaGreat

namespace Go.Proofs.YtgpmmpajnfbecaaGreat
open Go.RowKit

end Go.Proofs.YtgpmmpajnfbecaaGreat
