/- Walks: the reference's Mul. Printed by a program (rref.py). Walks: the reference's Add of the same sign. Printed by a program (rref.py). Walks: the reference's Add. Printed by a program (rref.py). Walks: the reference's Of. Printed by a program (rof4.py). Walks: the reference's Text. Printed by a program (rtext4.py). Walks: the reference's Add, Mul, Gcd and big's Add, Sub, Mul where an argument is not right. Printed by a program (rbad4.py) from Fc. -/
import Derived.Test.YtlbjaimgoiimgaaXal
import Derived.Test.YtlbjaimgoiimgaaXag
import Derived.Deep.RegionHeld3
import Derived.IntWalk
import Derived.Test.YtlbjaimgoiimgaaXae

namespace Go.Proofs.Ytlbjaimgoiimgaa
open Go.RowKit

end Go.Proofs.Ytlbjaimgoiimgaa

namespace Go.Proofs.Ytlbjaimgoiimgaa
open Go.RowKit

theorem or_sgn {s1 s2 : Int} (h1 : -1 ≤ s1 ∧ s1 ≤ 1) (h2 : -1 ≤ s2 ∧ s2 ≤ 1) (h : s1 = 0 ∨ s2 = 0 ∨ s1 = s2) : bits BinOp.or IntKind.i64 s1 s2 = if s1 = 0 then s2 else s1 := by
  have a1 : s1 = -1 ∨ s1 = 0 ∨ s1 = 1 := by omega
  have a2 : s2 = -1 ∨ s2 = 0 ∨ s2 = 1 := by omega
  rcases a1 with rfl | rfl | rfl <;> rcases a2 with rfl | rfl | rfl <;> first | (exfalso; omega) | decide
theorem sgn_three (x : Int) : (x < 0 ∧ sgn x = -1) ∨ (x = 0 ∧ sgn x = 0) ∨ (0 < x ∧ sgn x = 1) := by
  rcases Int.lt_trichotomy x 0 with h | h | h
  · exact .inl ⟨h, sgn_of_neg h⟩
  · exact .inr (.inl ⟨h, by rw [h]; rfl⟩)
  · exact .inr (.inr ⟨h, sgn_pos h⟩)
theorem add_same {x y : Int} (h : sgn x = 0 ∨ sgn y = 0 ∨ sgn x = sgn y) : (if sgn x = 0 then sgn y else sgn x) * (ab x + ab y) = x + y := by
  rcases sgn_three x with ⟨a, e⟩ | ⟨a, e⟩ | ⟨a, e⟩ <;> rcases sgn_three y with ⟨b, e'⟩ | ⟨b, e'⟩ | ⟨b, e'⟩ <;> rw [e, e'] at h ⊢ <;> first | (exfalso; omega) | (rw [if_pos rfl]; unfold ab; omega) | (rw [if_neg (by decide)]; unfold ab; omega)

end Go.Proofs.Ytlbjaimgoiimgaa

namespace Go.Proofs.Ytlbjaimgoiimgaa
open Go.RowKit

theorem add_diff_b {x y : Int} (h : sgn x ≠ 0 ∧ sgn y ≠ 0 ∧ sgn x ≠ sgn y) (_ : ab x < ab y) : sgn y * (ab y - ab x) = x + y := by
  obtain ⟨h1, h2, h3⟩ := h
  rcases sgn_three x with ⟨a, e⟩ | ⟨a, e⟩ | ⟨a, e⟩ <;> rcases sgn_three y with ⟨b, e'⟩ | ⟨b, e'⟩ | ⟨b, e'⟩ <;> rw [e] at h1 h3 <;> rw [e'] at h2 h3 ⊢ <;> first | (exfalso; omega) | (unfold ab at *; omega)
theorem add_diff_a {x y : Int} (h : sgn x ≠ 0 ∧ sgn y ≠ 0 ∧ sgn x ≠ sgn y) (_ : ¬ ab x < ab y) : sgn x * (ab x - ab y) = x + y := by
  obtain ⟨h1, h2, h3⟩ := h
  rcases sgn_three x with ⟨a, e⟩ | ⟨a, e⟩ | ⟨a, e⟩ <;> rcases sgn_three y with ⟨b, e'⟩ | ⟨b, e'⟩ | ⟨b, e'⟩ <;> rw [e] at h1 h3 ⊢ <;> rw [e'] at h2 h3 <;> first | (exfalso; omega) | (unfold ab at *; omega)

end Go.Proofs.Ytlbjaimgoiimgaa

namespace Go.Proofs.Ytlbjaimgoiimgaa
open Go.RowKit

theorem of_step {l : List Int} {k : Nat} {X Z : Int} (hl : l.length = k) (h : nv l + pw k * X = Z) : nv (l ++ [X % 1048576]) + pw (k + 1) * (X / 1048576) = Z := by
  rw [nv_snoc, hl, pw_succ, ← h]
  have e1 : 1048576 * pw k * (X / 1048576) = pw k * (1048576 * (X / 1048576)) := by rw [Int.mul_comm 1048576, Int.mul_assoc]
  rw [e1]
  have e2 : pw k * (X % 1048576) + pw k * (1048576 * (X / 1048576)) = pw k * X := by rw [← Int.mul_add]; congr 1; omega
  omega
theorem of_neg_mod {X N : Int} (hX : 0 ≤ X) (hN : N = -X) : N.tmod 1048576 = -(X % 1048576) := by
  rw [hN, Int.neg_tmod, Int.tmod_eq_emod_of_nonneg hX]
theorem of_neg_div {X N : Int} (hX : 0 ≤ X) (hN : N = -X) : N.tdiv 1048576 = -(X / 1048576) := by
  rw [hN, Int.neg_tdiv, Int.tdiv_eq_ediv_of_nonneg hX]
theorem of_few {l : List Int} {k : Nat} {X Z : Int} (hd : Dig l) (h : nv l + pw k * X = Z) (hZ : Z ≤ 9223372036854775808) (hX : 0 < X) : k < 4 := by
  rcases Nat.lt_or_ge k 4 with g | g
  · exact g
  · have h1 := pw_le g
    have h2 := hd.nv_nonneg
    have h3 : pw k * 1 ≤ pw k * X := Int.mul_le_mul_of_nonneg_left (by omega) (by have := pw_pos k; omega)
    have h4 : pw 4 = 1208925819614629174706176 := by decide
    omega

set_option maxRecDepth 100000 in
set_option maxHeartbeats 4000000 in
theorem rof_any (z : Int) (w : World) (h0 : -9223372036854775808 ≤ z) (h1 : z ≤ 9223372036854775807) :
    Calls Try.prog 42 #[.int .i64 z] w fun e w' => ∃ r, e = .returned r ∧ BO w' w.heap.size r z ∧ Below w.heap.size w w' := by
  have hb0 := (Below.refl w.heap.size w).alloc (Nat.le_refl _) (.cells #[.int .i64 0, .slice none 0 0] 38)
  have k0 := Blk.new w 38 #[.int .i64 0, .slice none 0 0]
  have hs0 : (w.alloc (.cells #[.int .i64 0, .slice none 0 0] 38)).heap.size = w.heap.size + 1 := by simp
  obtain ⟨W, hW⟩ : ∃ W, w.alloc (.cells #[.int .i64 0, .slice none 0 0] 38) = W := ⟨_, rfl⟩
  have HWW := Lib.hid hW
  rw [hW] at hb0 k0 hs0
  clear hW
  have hlt : w.heap.size < W.heap.size := by omega
  rcases Int.lt_trichotomy z 0 with hz | hz | hz
  · have q1 : (z == 0) = false := by simpa using (show z ≠ 0 by omega)
    go_enter Try.func42, Try.ntmps42
    go_wp2_with fail
    rw [HWW.out]
    clear q1
    go_loopw [0, 4, 5] (fun nv' o dv wr => ∃ (k : Nat) (l : List Int) (X N : Int), nv' = .int .i64 N ∧ Hid (N = -X) ∧ 0 ≤ X ∧ OwnI wr W.heap.size o l ∧ Hid (l.length = k) ∧ Dig l ∧ Hid (nv l + pw k * X = -z) ∧ k ≤ 4 ∧ X ≤ 9223372036854775808 ∧ Below W.heap.size W wr) (fun nv' _ _ _ => (intOf nv').natAbs)
    case atStart => exact ⟨0, [], -z, z, rfl, Lib.hid (by omega), by omega, OwnI.nil _ _, Lib.hid rfl, Dig.nil, Lib.hid (by rw [nv_nil]; simp [pw]), by omega, by omega, Below.refl _ _⟩
    case round =>
      obtain ⟨k, l, X, N, rfl, hN, hX, hown, hlen, hdig, hv, hk, hXb, hbw⟩ := hrel
      have hs := hbw.size
      have hl9 : l.length ≤ 10000000 := by have := hlen.out; omega
      by_cases hgo : 0 < X
      · have hk4 := of_few hdig hv.out (by omega) hgo
        have hst := of_step hlen.out hv.out
        have hm : N.tmod 1048576 = -(X % 1048576) := of_neg_mod hX hN.out
        have hd : N.tdiv 1048576 = -(X / 1048576) := of_neg_div hX hN.out
        have hr0 := Int.emod_nonneg X (show (1048576 : Int) ≠ 0 by decide)
        have hr1 := Int.emod_lt_of_pos X (show (0 : Int) < 1048576 by decide)
        have hdn0 : 0 ≤ X / 1048576 := by omega
        have hdn1 : X / 1048576 < X := by omega
        have hNn : N.natAbs = X.toNat := by have := hN.out; omega
        obtain ⟨R, hR⟩ : ∃ R, X % 1048576 = R := ⟨_, rfl⟩
        obtain ⟨Y, hY⟩ : ∃ R, X / 1048576 = R := ⟨_, rfl⟩
        rw [hR] at hst hm hr0 hr1
        rw [hY] at hst hd hdn0 hdn1
        clear hR hY
        have q1 : (N != 0) = true := by have := hN.out; simp; omega
        have HST := Lib.hid hst; clear hst
        have HNN := Lib.hid hNn; clear hNn
        obtain ⟨M, hM⟩ : ∃ M, -R = M := ⟨_, rfl⟩
        obtain ⟨K, hK⟩ : ∃ M, -Y = M := ⟨_, rfl⟩
        rw [hM] at hm
        rw [hK] at hd
        have HM := Lib.hid hM; clear hM
        have HK := Lib.hid hK; clear hK
        have hKb : -9223372036854775808 ≤ K ∧ K ≤ 9223372036854775807 := by have := HK.out; omega
        have f1 : IntKind.i64.wrap K = K := IntWalk.i64_in _ hKb
        have f2 : IntKind.i64.wrap M = M := IntWalk.i64_in _ (by have := HM.out; omega)
        have f3 : IntKind.i64.wrap (-M) = -M := IntWalk.i64_in _ (by have := HM.out; omega)
        by_cases hM0 : M < 0
        · have q2 : decide (M < 0) = true := decide_eq_true hM0
          go_wp2_with (first
            | (at_builtin; refine appI rfl (.tmp 19) (.tmp 21) rfl W.heap.size _ l (-M) rfl hown rfl hl9 hs ?_; intro v1 w1 hown1 hb1))
          go_roundw
          case rel => exact ⟨k + 1, _, Y, K, rfl, Lib.hid (by have := HK.out; omega), hdn0, hown1, Lib.hid (by simp [hlen.out]), hdig.snoc (by have := HM.out; omega) (by have := HM.out; omega), Lib.hid (by rw [show -M = R by have := HM.out; omega]; exact HST.out), by omega, by omega, hbw.trans hb1⟩
          case measure => simp [intOf]; have := HK.out; have := HNN.out; omega
        · have hM00 : M = 0 := by have := HM.out; omega
          subst hM00
          go_wp2_with (first
            | (at_builtin; refine appI rfl (.tmp 19) (.tmp 21) rfl W.heap.size _ l 0 rfl hown rfl hl9 hs ?_; intro v1 w1 hown1 hb1))
          go_roundw
          case rel => exact ⟨k + 1, _, Y, K, rfl, Lib.hid (by have := HK.out; omega), hdn0, hown1, Lib.hid (by simp [hlen.out]), hdig.snoc (by have := HM.out; omega) (by have := HM.out; omega), Lib.hid (by rw [show (0 : Int) = R by have := HM.out; omega]; exact HST.out), by omega, by omega, hbw.trans hb1⟩
          case measure => simp [intOf]; have := HK.out; have := HNN.out; omega
      · have hX0 : X = 0 := by omega
        subst hX0
        have hN0 : N = 0 := by have := hN.out; omega
        subst hN0
        have hmd := rmade_any l (-1) z _ wr hown.sv hdig (by have := hlen.out; omega) (by have := hv.out; rw [Int.mul_zero] at this; omega) (.inr (.inl rfl))
        have HMD := Lib.hid hmd; clear hmd hown
        have hT := hb0.trans (hbw.mono hb0.size)
        have kR := k0.below hbw hlt
        have hltR := kR.lt
        clear hgo hN hv hlen
        go_wp2_with fail
        (with_reducible refine HMD.out.mono ?_)
        rintro e w5 ⟨r, rfl, hr, hb5⟩
        have hT := hT.trans (hb5.mono hT.size)
        have kR := kR.below hb5 hltR
        obtain ⟨s6, A6, n6, c6, rfl⟩ := hr.form
        have r0 := kR.cell 0
        have r1 := kR.cell 1
        have f0 := kR.frozen 0
        have f1 := kR.frozen 1
        simp at r0 r1
        have hbs := kR.set2 (.int .i64 s6) (.slice A6 n6 c6)
        have x0 := hbs.cell 0
        have x1 := hbs.cell 1
        simp at x0 x1
        go_wp2_with fail
        refine bodyPost_ret (v := .agg #[.int .i64 s6, .slice A6 n6 c6]) (by simp [results, Try.results42, go_sem, x0, x1]) rfl ?_
        exact ⟨_, rfl, (hr.far2 hltR _ _).mono (by omega), below_st hT (by omega) _ _⟩
  · subst hz
    go_enter Try.func42, Try.ntmps42
    go_wp2_with fail
    refine bodyPost_ret (v := .agg #[.int .i64 0, .slice none 0 0]) (by simp [results, Try.results42, go_sem]) rfl ?_
    exact ⟨_, rfl, BO.zero _ _, below_new (Below.refl _ _) _⟩
  · have q1 : (z == 0) = false := by simpa using (show z ≠ 0 by omega)
    go_enter Try.func42, Try.ntmps42
    go_wp2_with fail
    rw [HWW.out]
    clear q1
    go_loopw [0, 4, 5] (fun nv' o dv wr => ∃ (k : Nat) (l : List Int) (X N : Int), nv' = .int .i64 N ∧ Hid (N = X) ∧ 0 ≤ X ∧ OwnI wr W.heap.size o l ∧ Hid (l.length = k) ∧ Dig l ∧ Hid (nv l + pw k * X = z) ∧ k ≤ 4 ∧ X ≤ 9223372036854775808 ∧ Below W.heap.size W wr) (fun nv' _ _ _ => (intOf nv').natAbs)
    case atStart => exact ⟨0, [], z, z, rfl, Lib.hid (by omega), by omega, OwnI.nil _ _, Lib.hid rfl, Dig.nil, Lib.hid (by rw [nv_nil]; simp [pw]), by omega, by omega, Below.refl _ _⟩
    case round =>
      obtain ⟨k, l, X, N, rfl, hN, hX, hown, hlen, hdig, hv, hk, hXb, hbw⟩ := hrel
      have hs := hbw.size
      have hl9 : l.length ≤ 10000000 := by have := hlen.out; omega
      by_cases hgo : 0 < X
      · have hk4 := of_few hdig hv.out (by omega) hgo
        have hst := of_step hlen.out hv.out
        have hm : N.tmod 1048576 = X % 1048576 := by rw [hN.out]; exact Int.tmod_eq_emod_of_nonneg hX
        have hd : N.tdiv 1048576 = X / 1048576 := by rw [hN.out]; exact Int.tdiv_eq_ediv_of_nonneg hX
        have hr0 := Int.emod_nonneg X (show (1048576 : Int) ≠ 0 by decide)
        have hr1 := Int.emod_lt_of_pos X (show (0 : Int) < 1048576 by decide)
        have hdn0 : 0 ≤ X / 1048576 := by omega
        have hdn1 : X / 1048576 < X := by omega
        have hNn : N.natAbs = X.toNat := by have := hN.out; omega
        obtain ⟨R, hR⟩ : ∃ R, X % 1048576 = R := ⟨_, rfl⟩
        obtain ⟨Y, hY⟩ : ∃ R, X / 1048576 = R := ⟨_, rfl⟩
        rw [hR] at hst hm hr0 hr1
        rw [hY] at hst hd hdn0 hdn1
        clear hR hY
        have q1 : (N != 0) = true := by have := hN.out; simp; omega
        have HST := Lib.hid hst; clear hst
        have HNN := Lib.hid hNn; clear hNn
        obtain ⟨M, hM⟩ : ∃ M, R = M := ⟨_, rfl⟩
        obtain ⟨K, hK⟩ : ∃ M, Y = M := ⟨_, rfl⟩
        rw [hM] at hm
        rw [hK] at hd
        have HM := Lib.hid hM; clear hM
        have HK := Lib.hid hK; clear hK
        have hKb : -9223372036854775808 ≤ K ∧ K ≤ 9223372036854775807 := by have := HK.out; omega
        have f1 : IntKind.i64.wrap K = K := IntWalk.i64_in _ hKb
        have f2 : IntKind.i64.wrap M = M := IntWalk.i64_in _ (by have := HM.out; omega)
        have f3 : IntKind.i64.wrap (-M) = -M := IntWalk.i64_in _ (by have := HM.out; omega)
        · have q2 : decide (M < 0) = false := decide_eq_false (by have := HM.out; omega)
          go_wp2_with (first
            | (at_builtin; refine appI rfl (.tmp 19) (.tmp 21) rfl W.heap.size _ l M rfl hown rfl hl9 hs ?_; intro v1 w1 hown1 hb1))
          go_roundw
          case rel => exact ⟨k + 1, _, Y, K, rfl, Lib.hid (by have := HK.out; omega), hdn0, hown1, Lib.hid (by simp [hlen.out]), hdig.snoc (by have := HM.out; omega) (by have := HM.out; omega), Lib.hid (by rw [show M = R by have := HM.out; omega]; exact HST.out), by omega, by omega, hbw.trans hb1⟩
          case measure => simp [intOf]; have := HK.out; have := HNN.out; omega
      · have hX0 : X = 0 := by omega
        subst hX0
        have hN0 : N = 0 := by have := hN.out; omega
        subst hN0
        have hmd := rmade_any l (1) z _ wr hown.sv hdig (by have := hlen.out; omega) (by have := hv.out; rw [Int.mul_zero] at this; omega) (.inl rfl)
        have HMD := Lib.hid hmd; clear hmd hown
        have hT := hb0.trans (hbw.mono hb0.size)
        have kR := k0.below hbw hlt
        have hltR := kR.lt
        clear hgo hN hv hlen
        go_wp2_with fail
        (with_reducible refine HMD.out.mono ?_)
        rintro e w5 ⟨r, rfl, hr, hb5⟩
        have hT := hT.trans (hb5.mono hT.size)
        have kR := kR.below hb5 hltR
        obtain ⟨s6, A6, n6, c6, rfl⟩ := hr.form
        have r0 := kR.cell 0
        have r1 := kR.cell 1
        have f0 := kR.frozen 0
        have f1 := kR.frozen 1
        simp at r0 r1
        have hbs := kR.set2 (.int .i64 s6) (.slice A6 n6 c6)
        have x0 := hbs.cell 0
        have x1 := hbs.cell 1
        simp at x0 x1
        go_wp2_with fail
        refine bodyPost_ret (v := .agg #[.int .i64 s6, .slice A6 n6 c6]) (by simp [results, Try.results42, go_sem, x0, x1]) rfl ?_
        exact ⟨_, rfl, (hr.far2 hltR _ _).mono (by omega), below_st hT (by omega) _ _⟩

end Go.Proofs.Ytlbjaimgoiimgaa

namespace Go.Proofs.Ytlbjaimgoiimgaa
open Go.RowKit

/-- What is left to write of x's digits, and what is written. -/
def TxP (x X : Int) (S : List UInt8) : Prop := (0 < X ∧ Lib.decDigits x.toNat = Lib.decDigits X.toNat ++ S) ∨ (X = 0 ∧ Lib.decDigits x.toNat = S)
theorem TxP.start {x : Int} (h : 0 < x) : TxP x x [] := .inl ⟨h, by simp⟩
theorem TxP.step {x X : Int} {S : List UInt8} (h : TxP x X S) (hX : 0 < X) : TxP x (X / 10) (UInt8.ofNat (48 + (X % 10).toNat) :: S) := by
  rcases h with ⟨_, h⟩ | ⟨h, _⟩
  · have e1 : (X / 10).toNat = X.toNat / 10 := by omega
    have e2 : (X % 10).toNat = X.toNat % 10 := by omega
    by_cases g : X.toNat < 10
    · refine .inr ⟨by omega, ?_⟩
      rw [h, dd_lt g, e2, Nat.mod_eq_of_lt g]; rfl
    · refine .inl ⟨by omega, ?_⟩
      rw [h, dd_ge g, e1, e2, List.append_assoc]; rfl
  · omega
theorem TxP.done {x : Int} {S : List UInt8} (h : TxP x 0 S) : S = Lib.decDigits x.toNat := by
  rcases h with ⟨h, _⟩ | ⟨_, h⟩
  · omega
  · exact h.symm
theorem TxP.few {x X : Int} {S : List UInt8} (h : TxP x X S) : S.length ≤ (Lib.decDigits x.toNat).length := by
  rcases h with ⟨_, h⟩ | ⟨_, h⟩ <;> rw [h]
  · rw [List.length_append]; omega
  · exact Nat.le_refl _

end Go.Proofs.Ytlbjaimgoiimgaa

namespace Go.Proofs.Ytlbjaimgoiimgaa
open Go.RowKit

set_option maxRecDepth 100000 in
set_option maxHeartbeats 2000000 in
theorem rgcd_bad {s1 s2 : Int} {l1 l2 : List Int} {A1 A2 : Option Addr} {n1 c1 n2 c2 : Nat} {w : World} (h1 : Ar w s1 l1 A1 n1 c1) (h2 : Ar w s2 l2 A2 n2 c2) (hb : ¬ (RightP s1 l1 ∧ RightP s2 l2)) :
    Calls Try.prog 63 #[.agg #[.int .i64 s1, .slice A1 n1 c1], .agg #[.int .i64 s2, .slice A2 n2 c2]] w fun e w' => e = .returned (.tuple #[.agg #[.int .i64 0, .slice none 0 0], .int .i64 1]) ∧ Below w.heap.size w w' := by
  have hH := fun (w' : World) (h : Below w.heap.size w w') (b : Bool) => rRight_any s1 l1 A1 n1 c1 w' (h1.later h) b
  have hG := fun (w' : World) (h : Below w.heap.size w w') (b : Bool) => rRight_any s2 l2 A2 n2 c2 w' (h2.later h) b
  have HH := Lib.hid hH; clear hH
  have HG := Lib.hid hG; clear hG
  have HB := Lib.hid hb; clear hb
  by_cases hr : RightP s1 l1
  · have hn : ¬ RightP s2 l2 := fun h => HB.out ⟨hr, h⟩
    have HR := Lib.hid hr; clear hr
    have HN := Lib.hid hn; clear hn
    clear h1 h2
    go_enter Try.func63, Try.ntmps63
    go_wp2_with fail
    obtain ⟨w1, hw1, hb1, k1, k2, k3, _⟩ := boxes3 w #[.int .i64 s1, .slice A1 n1 c1] #[.int .i64 s2, .slice A2 n2 c2] #[.int .i64 0, .slice none 0 0]
    rw [← hw1]
    clear hw1
    (with_reducible refine (HH.out w1 hb1 true (by simp [HR.out])).mono ?_)
    rintro e w2 ⟨rfl, hb2⟩
    have k2 := k2.below hb2 k2.lt
    have k3 := k3.below hb2 k3.lt
    have hb2 := hb1.trans (hb2.mono hb1.size)
    have j1 : w2.cell? ⟨w.heap.size + 1, 0, none⟩ = some (.int .i64 s2) := k2.cell 0
    have j2 : w2.cell? ⟨w.heap.size + 1, 1, none⟩ = some (.slice A2 n2 c2) := k2.cell 1
    go_wp2_with fail
    clear j1 j2
    (with_reducible refine (HG.out w2 hb2 false (by simp [HN.out])).mono ?_)
    rintro e w3 ⟨rfl, hb3⟩
    have k3 := k3.below hb3 k3.lt
    have hb3 := hb2.trans (hb3.mono hb2.size)
    clear k1 k2 hb1 hb2 HH HG
    obtain ⟨g, hg⟩ : ∃ g, w.heap.size + 1 + 1 = g := ⟨_, rfl⟩
    have hgw : w.heap.size ≤ g := by omega
    rw [hg] at k3 ⊢
    clear hg
    have c30 : w3.cell? ⟨g, 0, none⟩ = some (.int .i64 0) := k3.cell 0
    have c31 : w3.cell? ⟨g, 1, none⟩ = some (.slice none 0 0) := k3.cell 1
    have f30 := k3.frozen 0
    have f31 := k3.frozen 1
    have hbs := k3.set2 (.int .i64 0) (.slice none 0 0)
    have d0 := hbs.cell 0
    have d1 := hbs.cell 1
    simp at d0 d1
    have hb9 := (hb3.setCell (p := ⟨g, 0, none⟩) hgw (.int .i64 0)).setCell (p := ⟨g, 1, none⟩) hgw (.slice none 0 0)
    go_wp2_with fail
    refine bodyPost_ret (v := .tuple #[.agg #[.int .i64 0, .slice none 0 0], .int .i64 1]) (by simp [results, Try.results63, go_sem, d0, d1]) rfl ?_
    exact ⟨rfl, hb9⟩
  · have HN := Lib.hid hr; clear hr
    clear h1 h2
    go_enter Try.func63, Try.ntmps63
    go_wp2_with fail
    obtain ⟨w1, hw1, hb1, k1, k2, k3, _⟩ := boxes3 w #[.int .i64 s1, .slice A1 n1 c1] #[.int .i64 s2, .slice A2 n2 c2] #[.int .i64 0, .slice none 0 0]
    rw [← hw1]
    clear hw1
    (with_reducible refine (HH.out w1 hb1 false (by simp [HN.out])).mono ?_)
    rintro e w2 ⟨rfl, hb2⟩
    have k3 := k3.below hb2 k3.lt
    have hb2 := hb1.trans (hb2.mono hb1.size)
    clear k1 k2 hb1 HH HG
    obtain ⟨g, hg⟩ : ∃ g, w.heap.size + 1 + 1 = g := ⟨_, rfl⟩
    have hgw : w.heap.size ≤ g := by omega
    rw [hg] at k3 ⊢
    clear hg
    have c30 : w2.cell? ⟨g, 0, none⟩ = some (.int .i64 0) := k3.cell 0
    have c31 : w2.cell? ⟨g, 1, none⟩ = some (.slice none 0 0) := k3.cell 1
    have f30 := k3.frozen 0
    have f31 := k3.frozen 1
    have hbs := k3.set2 (.int .i64 0) (.slice none 0 0)
    have d0 := hbs.cell 0
    have d1 := hbs.cell 1
    simp at d0 d1
    have hb9 := (hb2.setCell (p := ⟨g, 0, none⟩) hgw (.int .i64 0)).setCell (p := ⟨g, 1, none⟩) hgw (.slice none 0 0)
    go_wp2_with fail
    refine bodyPost_ret (v := .tuple #[.agg #[.int .i64 0, .slice none 0 0], .int .i64 1]) (by simp [results, Try.results63, go_sem, d0, d1]) rfl ?_
    exact ⟨rfl, hb9⟩

set_option maxRecDepth 100000 in
set_option maxHeartbeats 2000000 in
theorem mul_bad {s1 s2 : Int} {l1 l2 : List Int} {A1 A2 : Option Addr} {n1 c1 n2 c2 : Nat} {w : World} (h1 : Ar w s1 l1 A1 n1 c1) (h2 : Ar w s2 l2 A2 n2 c2) (hb : ¬ (RightP s1 l1 ∧ RightP s2 l2)) :
    Calls Try.prog 53 #[.agg #[.int .i64 s1, .slice A1 n1 c1], .agg #[.int .i64 s2, .slice A2 n2 c2]] w fun e w' => e = .returned (.tuple #[.agg #[.int .i64 0, .slice none 0 0], .int .i64 1]) ∧ Below w.heap.size w w' := by
  have hH := fun (w' : World) (h : Below w.heap.size w w') (b : Bool) => (h1.later h).right b
  have hG := fun (w' : World) (h : Below w.heap.size w w') (b : Bool) => (h2.later h).right b
  have HH := Lib.hid hH; clear hH
  have HG := Lib.hid hG; clear hG
  have HB := Lib.hid hb; clear hb
  by_cases hr : RightP s1 l1
  · have hn : ¬ RightP s2 l2 := fun h => HB.out ⟨hr, h⟩
    have HR := Lib.hid hr; clear hr
    have HN := Lib.hid hn; clear hn
    clear h1 h2
    go_enter Try.func53, Try.ntmps53
    go_wp2_with fail
    obtain ⟨w1, hw1, hb1, k1, k2, k3, _⟩ := boxes3 w #[.int .i64 s1, .slice A1 n1 c1] #[.int .i64 s2, .slice A2 n2 c2] #[.int .i64 0, .slice none 0 0]
    rw [← hw1]
    clear hw1
    (with_reducible refine (HH.out w1 hb1 true (by simp [HR.out])).mono ?_)
    rintro e w2 ⟨rfl, hb2⟩
    have k2 := k2.below hb2 k2.lt
    have k3 := k3.below hb2 k3.lt
    have hb2 := hb1.trans (hb2.mono hb1.size)
    have j1 : w2.cell? ⟨w.heap.size + 1, 0, none⟩ = some (.int .i64 s2) := k2.cell 0
    have j2 : w2.cell? ⟨w.heap.size + 1, 1, none⟩ = some (.slice A2 n2 c2) := k2.cell 1
    go_wp2_with fail
    clear j1 j2
    (with_reducible refine (HG.out w2 hb2 false (by simp [HN.out])).mono ?_)
    rintro e w3 ⟨rfl, hb3⟩
    have k3 := k3.below hb3 k3.lt
    have hb3 := hb2.trans (hb3.mono hb2.size)
    clear k1 k2 hb1 hb2 HH HG
    obtain ⟨g, hg⟩ : ∃ g, w.heap.size + 1 + 1 = g := ⟨_, rfl⟩
    have hgw : w.heap.size ≤ g := by omega
    rw [hg] at k3 ⊢
    clear hg
    have c30 : w3.cell? ⟨g, 0, none⟩ = some (.int .i64 0) := k3.cell 0
    have c31 : w3.cell? ⟨g, 1, none⟩ = some (.slice none 0 0) := k3.cell 1
    have f30 := k3.frozen 0
    have f31 := k3.frozen 1
    have hbs := k3.set2 (.int .i64 0) (.slice none 0 0)
    have d0 := hbs.cell 0
    have d1 := hbs.cell 1
    simp at d0 d1
    have hb9 := (hb3.setCell (p := ⟨g, 0, none⟩) hgw (.int .i64 0)).setCell (p := ⟨g, 1, none⟩) hgw (.slice none 0 0)
    go_wp2_with fail
    refine bodyPost_ret (v := .tuple #[.agg #[.int .i64 0, .slice none 0 0], .int .i64 1]) (by simp [results, Try.results53, go_sem, d0, d1]) rfl ?_
    exact ⟨rfl, hb9⟩
  · have HN := Lib.hid hr; clear hr
    clear h1 h2
    go_enter Try.func53, Try.ntmps53
    go_wp2_with fail
    obtain ⟨w1, hw1, hb1, k1, k2, k3, _⟩ := boxes3 w #[.int .i64 s1, .slice A1 n1 c1] #[.int .i64 s2, .slice A2 n2 c2] #[.int .i64 0, .slice none 0 0]
    rw [← hw1]
    clear hw1
    (with_reducible refine (HH.out w1 hb1 false (by simp [HN.out])).mono ?_)
    rintro e w2 ⟨rfl, hb2⟩
    have k3 := k3.below hb2 k3.lt
    have hb2 := hb1.trans (hb2.mono hb1.size)
    clear k1 k2 hb1 HH HG
    obtain ⟨g, hg⟩ : ∃ g, w.heap.size + 1 + 1 = g := ⟨_, rfl⟩
    have hgw : w.heap.size ≤ g := by omega
    rw [hg] at k3 ⊢
    clear hg
    have c30 : w2.cell? ⟨g, 0, none⟩ = some (.int .i64 0) := k3.cell 0
    have c31 : w2.cell? ⟨g, 1, none⟩ = some (.slice none 0 0) := k3.cell 1
    have f30 := k3.frozen 0
    have f31 := k3.frozen 1
    have hbs := k3.set2 (.int .i64 0) (.slice none 0 0)
    have d0 := hbs.cell 0
    have d1 := hbs.cell 1
    simp at d0 d1
    have hb9 := (hb2.setCell (p := ⟨g, 0, none⟩) hgw (.int .i64 0)).setCell (p := ⟨g, 1, none⟩) hgw (.slice none 0 0)
    go_wp2_with fail
    refine bodyPost_ret (v := .tuple #[.agg #[.int .i64 0, .slice none 0 0], .int .i64 1]) (by simp [results, Try.results53, go_sem, d0, d1]) rfl ?_
    exact ⟨rfl, hb9⟩

set_option maxRecDepth 100000 in
set_option maxHeartbeats 2000000 in
theorem sum_bad {s1 s2 t : Int} {l1 l2 : List Int} {A1 A2 : Option Addr} {n1 c1 n2 c2 : Nat} {w : World} (h1 : Ar w s1 l1 A1 n1 c1) (h2 : Ar w s2 l2 A2 n2 c2) (hb : ¬ (RightP s1 l1 ∧ RightP s2 l2)) :
    Calls Try.prog 55 #[.agg #[.int .i64 s1, .slice A1 n1 c1], .agg #[.int .i64 s2, .slice A2 n2 c2], .int .i64 t] w fun e w' => e = .returned (.tuple #[.agg #[.int .i64 0, .slice none 0 0], .int .i64 1]) ∧ Below w.heap.size w w' := by
  have hH := fun (w' : World) (h : Below w.heap.size w w') (b : Bool) => (h1.later h).right b
  have hG := fun (w' : World) (h : Below w.heap.size w w') (b : Bool) => (h2.later h).right b
  have HH := Lib.hid hH; clear hH
  have HG := Lib.hid hG; clear hG
  have HB := Lib.hid hb; clear hb
  by_cases hr : RightP s1 l1
  · have hn : ¬ RightP s2 l2 := fun h => HB.out ⟨hr, h⟩
    have HR := Lib.hid hr; clear hr
    have HN := Lib.hid hn; clear hn
    clear h1 h2
    go_enter Try.func55, Try.ntmps55
    go_wp2_with fail
    obtain ⟨w1, hw1, hb1, k1, k2, k3, _⟩ := boxes3 w #[.int .i64 s1, .slice A1 n1 c1] #[.int .i64 s2, .slice A2 n2 c2] #[.int .i64 0, .slice none 0 0]
    rw [← hw1]
    clear hw1
    (with_reducible refine (HH.out w1 hb1 true (by simp [HR.out])).mono ?_)
    rintro e w2 ⟨rfl, hb2⟩
    have k2 := k2.below hb2 k2.lt
    have k3 := k3.below hb2 k3.lt
    have hb2 := hb1.trans (hb2.mono hb1.size)
    have j1 : w2.cell? ⟨w.heap.size + 1, 0, none⟩ = some (.int .i64 s2) := k2.cell 0
    have j2 : w2.cell? ⟨w.heap.size + 1, 1, none⟩ = some (.slice A2 n2 c2) := k2.cell 1
    go_wp2_with fail
    clear j1 j2
    (with_reducible refine (HG.out w2 hb2 false (by simp [HN.out])).mono ?_)
    rintro e w3 ⟨rfl, hb3⟩
    have k3 := k3.below hb3 k3.lt
    have hb3 := hb2.trans (hb3.mono hb2.size)
    clear k1 k2 hb1 hb2 HH HG
    obtain ⟨g, hg⟩ : ∃ g, w.heap.size + 1 + 1 = g := ⟨_, rfl⟩
    have hgw : w.heap.size ≤ g := by omega
    rw [hg] at k3 ⊢
    clear hg
    have c30 : w3.cell? ⟨g, 0, none⟩ = some (.int .i64 0) := k3.cell 0
    have c31 : w3.cell? ⟨g, 1, none⟩ = some (.slice none 0 0) := k3.cell 1
    have f30 := k3.frozen 0
    have f31 := k3.frozen 1
    have hbs := k3.set2 (.int .i64 0) (.slice none 0 0)
    have d0 := hbs.cell 0
    have d1 := hbs.cell 1
    simp at d0 d1
    have hb9 := (hb3.setCell (p := ⟨g, 0, none⟩) hgw (.int .i64 0)).setCell (p := ⟨g, 1, none⟩) hgw (.slice none 0 0)
    go_wp2_with fail
    refine bodyPost_ret (v := .tuple #[.agg #[.int .i64 0, .slice none 0 0], .int .i64 1]) (by simp [results, Try.results55, go_sem, d0, d1]) rfl ?_
    exact ⟨rfl, hb9⟩
  · have HN := Lib.hid hr; clear hr
    clear h1 h2
    go_enter Try.func55, Try.ntmps55
    go_wp2_with fail
    obtain ⟨w1, hw1, hb1, k1, k2, k3, _⟩ := boxes3 w #[.int .i64 s1, .slice A1 n1 c1] #[.int .i64 s2, .slice A2 n2 c2] #[.int .i64 0, .slice none 0 0]
    rw [← hw1]
    clear hw1
    (with_reducible refine (HH.out w1 hb1 false (by simp [HN.out])).mono ?_)
    rintro e w2 ⟨rfl, hb2⟩
    have k3 := k3.below hb2 k3.lt
    have hb2 := hb1.trans (hb2.mono hb1.size)
    clear k1 k2 hb1 HH HG
    obtain ⟨g, hg⟩ : ∃ g, w.heap.size + 1 + 1 = g := ⟨_, rfl⟩
    have hgw : w.heap.size ≤ g := by omega
    rw [hg] at k3 ⊢
    clear hg
    have c30 : w2.cell? ⟨g, 0, none⟩ = some (.int .i64 0) := k3.cell 0
    have c31 : w2.cell? ⟨g, 1, none⟩ = some (.slice none 0 0) := k3.cell 1
    have f30 := k3.frozen 0
    have f31 := k3.frozen 1
    have hbs := k3.set2 (.int .i64 0) (.slice none 0 0)
    have d0 := hbs.cell 0
    have d1 := hbs.cell 1
    simp at d0 d1
    have hb9 := (hb2.setCell (p := ⟨g, 0, none⟩) hgw (.int .i64 0)).setCell (p := ⟨g, 1, none⟩) hgw (.slice none 0 0)
    go_wp2_with fail
    refine bodyPost_ret (v := .tuple #[.agg #[.int .i64 0, .slice none 0 0], .int .i64 1]) (by simp [results, Try.results55, go_sem, d0, d1]) rfl ?_
    exact ⟨rfl, hb9⟩

set_option maxRecDepth 100000 in
set_option maxHeartbeats 2000000 in
theorem add_bad {s1 s2 : Int} {l1 l2 : List Int} {A1 A2 : Option Addr} {n1 c1 n2 c2 : Nat} {w : World} (h1 : Ar w s1 l1 A1 n1 c1) (h2 : Ar w s2 l2 A2 n2 c2) (hb : ¬ (RightP s1 l1 ∧ RightP s2 l2)) :
    Calls Try.prog 38 #[.agg #[.int .i64 s1, .slice A1 n1 c1], .agg #[.int .i64 s2, .slice A2 n2 c2]] w fun e w' => e = .returned (.tuple #[.agg #[.int .i64 0, .slice none 0 0], .int .i64 1]) ∧ Below w.heap.size w w' := by
  have hH := fun (w' : World) (h : Below w.heap.size w w') (t : Int) => sum_bad (t := t) (h1.later h) (h2.later h) hb
  have HH := Lib.hid hH; clear hH
  clear h1 h2 hb
  go_enter Try.func38, Try.ntmps38
  go_wp2_with fail
  obtain ⟨w1, hw1, hb1, k1, k2, k3, _⟩ := boxes3 w #[.int .i64 s1, .slice A1 n1 c1] #[.int .i64 s2, .slice A2 n2 c2] #[.int .i64 0, .slice none 0 0]
  rw [← hw1]
  clear hw1 k1 k2
  (with_reducible refine (HH.out w1 hb1 _).mono ?_)
  rintro e w3 ⟨rfl, hb2⟩
  have k3 := k3.below hb2 k3.lt
  have hb3 := hb1.trans (hb2.mono hb1.size)
  clear HH
  obtain ⟨g, hg⟩ : ∃ g, w.heap.size + 1 + 1 = g := ⟨_, rfl⟩
  have hgw : w.heap.size ≤ g := by omega
  rw [hg] at k3 ⊢
  clear hg
  have c30 : w3.cell? ⟨g, 0, none⟩ = some (.int .i64 0) := k3.cell 0
  have c31 : w3.cell? ⟨g, 1, none⟩ = some (.slice none 0 0) := k3.cell 1
  have f30 := k3.frozen 0
  have f31 := k3.frozen 1
  have hbs := k3.set2 (.int .i64 0) (.slice none 0 0)
  have d0 := hbs.cell 0
  have d1 := hbs.cell 1
  simp at d0 d1
  have hb9 := (hb3.setCell (p := ⟨g, 0, none⟩) hgw (.int .i64 0)).setCell (p := ⟨g, 1, none⟩) hgw (.slice none 0 0)
  go_wp2_with fail
  refine bodyPost_ret (v := .tuple #[.agg #[.int .i64 0, .slice none 0 0], .int .i64 1]) (by simp [results, Try.results38, go_sem, d0, d1]) rfl ?_
  exact ⟨rfl, hb9⟩

set_option maxRecDepth 100000 in
set_option maxHeartbeats 2000000 in
theorem sub_bad {s1 s2 : Int} {l1 l2 : List Int} {A1 A2 : Option Addr} {n1 c1 n2 c2 : Nat} {w : World} (h1 : Ar w s1 l1 A1 n1 c1) (h2 : Ar w s2 l2 A2 n2 c2) (hb : ¬ (RightP s1 l1 ∧ RightP s2 l2)) :
    Calls Try.prog 44 #[.agg #[.int .i64 s1, .slice A1 n1 c1], .agg #[.int .i64 s2, .slice A2 n2 c2]] w fun e w' => e = .returned (.tuple #[.agg #[.int .i64 0, .slice none 0 0], .int .i64 1]) ∧ Below w.heap.size w w' := by
  have hH := fun (w' : World) (h : Below w.heap.size w w') (t : Int) => sum_bad (t := t) (h1.later h) (h2.later h) hb
  have HH := Lib.hid hH; clear hH
  clear h1 h2 hb
  go_enter Try.func44, Try.ntmps44
  go_wp2_with fail
  obtain ⟨w1, hw1, hb1, k1, k2, k3, _⟩ := boxes3 w #[.int .i64 s1, .slice A1 n1 c1] #[.int .i64 s2, .slice A2 n2 c2] #[.int .i64 0, .slice none 0 0]
  rw [← hw1]
  clear hw1 k1 k2
  (with_reducible refine (HH.out w1 hb1 _).mono ?_)
  rintro e w3 ⟨rfl, hb2⟩
  have k3 := k3.below hb2 k3.lt
  have hb3 := hb1.trans (hb2.mono hb1.size)
  clear HH
  obtain ⟨g, hg⟩ : ∃ g, w.heap.size + 1 + 1 = g := ⟨_, rfl⟩
  have hgw : w.heap.size ≤ g := by omega
  rw [hg] at k3 ⊢
  clear hg
  have c30 : w3.cell? ⟨g, 0, none⟩ = some (.int .i64 0) := k3.cell 0
  have c31 : w3.cell? ⟨g, 1, none⟩ = some (.slice none 0 0) := k3.cell 1
  have f30 := k3.frozen 0
  have f31 := k3.frozen 1
  have hbs := k3.set2 (.int .i64 0) (.slice none 0 0)
  have d0 := hbs.cell 0
  have d1 := hbs.cell 1
  simp at d0 d1
  have hb9 := (hb3.setCell (p := ⟨g, 0, none⟩) hgw (.int .i64 0)).setCell (p := ⟨g, 1, none⟩) hgw (.slice none 0 0)
  go_wp2_with fail
  refine bodyPost_ret (v := .tuple #[.agg #[.int .i64 0, .slice none 0 0], .int .i64 1]) (by simp [results, Try.results44, go_sem, d0, d1]) rfl ?_
  exact ⟨rfl, hb9⟩

end Go.Proofs.Ytlbjaimgoiimgaa
