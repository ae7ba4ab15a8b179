/- Walks: divideLong, divide. Walks: steps, closer, common. Walks: closer, common. Walks: common. Walks: Right. Walks: number, fitting, Of, Same. -/
import Derived.Test.YtlbjaimgoiimgaaXab
import Derived.Lib.ItoaNum
import Derived.Laws.Rows
import Derived.Deep.RegionHeld3
import Derived.Deep.LoopGhost

namespace Go.Proofs.Ytlbjaimgoiimgaa
open Go.RowKit

theorem or_40 {r d : Int} (h0 : 0 ≤ r) (h1 : r < 4194304) (d0 : 0 ≤ d) (d1 : d < 1048576) : bits BinOp.or IntKind.i64 (r * 1099511627776) (d * 1048576) = r * 1099511627776 + d * 1048576 := by
  have e : (2 : Int) ^ 40 = 1099511627776 := by decide
  exact bits_join .i64 63 (by decide) (fun n h0 h1 => by rw [two63] at h1; rw [IntKind.wrap_i64]; omega) 40 (r * 1099511627776) (d * 1048576) (by omega) (by rw [e]; omega) (by rw [two63]; omega) (by omega) (by rw [e]; omega) (by rw [two63]; omega)
theorem OwnI.pos {w : World} {B : Nat} {v : Value} {l : List Int} (h : OwnI w B v l) (hp : 0 < l.length) : ∃ g cap, v = .slice (some ⟨g, 0, none⟩) l.length cap ∧ B ≤ g ∧ g < w.heap.size ∧ l.length ≤ cap ∧ cap ≤ 9223372036854775807 := by
  rcases h.2 with ⟨hv, hn⟩ | ⟨g, cap', cur, hv, hb, hg, hnc, hcm, hcs, htake⟩
  · omega
  · unfold maxLen at hcm
    exact ⟨g, cap', hv, hb, (Array.getElem?_eq_some_iff.1 hg).1, hnc, by omega⟩
theorem OwnI.grown {w w' : World} {B : Nat} {v : Value} {l : List Int} {row : Option Nat} (h : OwnI w B v l) (hg : w.grownBy w' row) (hne : v.ownBlock = none ∨ v.ownBlock ≠ row) : OwnI w' B v l := World.ownsRow.kept h hg hne

set_option maxRecDepth 100000 in
set_option maxHeartbeats 2000000 in
theorem divideLong_any (x y : Int) (Aa Ab : Option Addr) (ca cb : Nat) (w : World) (hIa : IntsAt w.heap.size w Aa (D x)) (hIb : IntsAt w.heap.size w Ab (D y)) (hx : 0 ≤ x) (hy : 0 ≤ y) (hlb : 3 ≤ (D y).length) (hab : (D y).length ≤ (D x).length) (hla : (D x).length ≤ 150) :
    Calls Try.prog 98 #[.slice Aa (D x).length ca, .slice Ab (D y).length cb] w fun e w' => ∃ v1 v2, e = .returned (.tuple #[v1, v2]) ∧ OwnI w' w.heap.size v1 (D (x / y)) ∧ OwnI w' w.heap.size v2 (D (x % y)) ∧ Below w.heap.size w w' := by
  have hdb := Dig_D y
  have hnb := Nrm_D y
  obtain ⟨n, hn⟩ : ∃ n, (D y).length = n := ⟨_, rfl⟩
  obtain ⟨m, hm⟩ : ∃ m, (D x).length = m := ⟨_, rfl⟩
  obtain ⟨b, off, hAb, hbb, hcb⟩ := hIb (n - 1) (by omega)
  obtain ⟨td, htd⟩ : ∃ d, (D y).getD (n - 1) 0 = d := ⟨_, rfl⟩
  have htd1 := hdb.getD (k := n - 1) (by omega)
  have htd0 := hnb.2 (by omega)
  rw [hn] at htd0
  rw [htd] at hcb htd1 htd0
  rw [hn] at hlb hab ⊢
  rw [hm] at hab hla ⊢
  have HN := Lib.hid hn; clear hn
  have HM := Lib.hid hm; clear hm
  have HTD := Lib.hid htd; clear htd hnb
  subst hAb
  obtain ⟨bl, hbl⟩ : ∃ k, Lib.bitLen td.toNat = k := ⟨_, rfl⟩
  have hb1 := Lib.bitLenAux_bounds 64 td.toNat (by omega) (by omega)
  have hb2 := Lib.bitLen_le td.toNat 20 (by omega) (by omega)
  have hb3 : Lib.bitLenAux 64 td.toNat = Lib.bitLen td.toNat := rfl
  rw [hb3, hbl] at hb1
  rw [hbl] at hb2
  have HBL := Lib.hid hbl; clear hbl hb3
  have hb1' := hb1.1
  have hpow : td + 1 ≤ 2 ^ bl := by
    have h := hb1.2.2
    have e : ((2 ^ bl : Nat) : Int) = (2 : Int) ^ bl := by rw [Int.natCast_pow]; rfl
    rw [← e]; omega
  clear hb1
  obtain ⟨f, hf⟩ : ∃ f : Int, f = 2 ^ (20 - bl) := ⟨_, rfl⟩
  obtain ⟨hf0, hf1, hyp, hfy⟩ := scaled hy HN.out (by omega) hb1' hb2 (by rw [HTD.out]; exact hpow) (by rw [HTD.out]; omega) hf
  clear hpow
  have hwf : wrap64 f = f := IntWalk.wrap64_in f ⟨by omega, by omega⟩
  rw [show wrap64 f = wrap64 (2 ^ (20 - bl)) by rw [← hf]] at hwf
  have HF := Lib.hid hf; clear hf
  have HWF := Lib.hid hwf; clear hwf
  have hxp : pw (m - 1) ≤ x := by
    rcases Nat.eq_zero_or_pos m with h | h
    · omega
    · exact (D_len_lt hx (k := m - 1)).1 (by rw [HM.out]; omega)
  have hxl : x < pw m := (D_len_le hx).1 (Nat.le_of_eq HM.out)
  -- the divisor, scaled
  obtain ⟨V, hV⟩ : ∃ V, f * y = V := ⟨_, rfl⟩
  have hyV : y ≤ V := by rw [← hV]; exact le_scaled hf0 hy
  rw [hV] at hfy
  have hvl : (D V).length = n := by
    have h1 := (D_len_le (z := V) (by omega) (k := n)).2 hfy
    have h2 := (D_len_lt (z := V) (by omega) (k := n - 1)).2 (by omega)
    omega
  have hvn := nv_D (z := V) (by omega)
  have hvd := Dig_D V
  have hvp := (Nrm_D V).2 (by rw [hvl]; omega)
  rw [hvl] at hvp
  obtain ⟨vl, hvlD⟩ : ∃ l, D V = l := ⟨_, rfl⟩
  rw [hvlD] at hvl hvn hvd hvp
  -- the dividend, scaled
  obtain ⟨X, hX⟩ : ∃ X, f * x = X := ⟨_, rfl⟩
  have hxX : x ≤ X := by rw [← hX]; exact le_scaled hf0 hx
  have hXl : X < pw (m + 1) := by rw [← hX]; exact scaled_lt hf1 hx hxl
  obtain ⟨N0, hN0⟩ : ∃ N0, (D X).length = N0 := ⟨_, rfl⟩
  have hN1 : m ≤ N0 := by
    rcases Nat.eq_zero_or_pos m with h | h
    · omega
    · have := (D_len_lt (z := X) (by omega) (k := m - 1)).2 (by omega)
      omega
  have hN2 : N0 ≤ m + 1 := by
    have := (D_len_le (z := X) (by omega) (k := m + 1)).2 hXl
    omega
  have HV := Lib.hid hV; clear hV
  have HX := Lib.hid hX; clear hX
  have HXL := Lib.hid hXl; clear hXl
  have HYP := Lib.hid hyp; clear hyp
  have HXP := Lib.hid hxp; clear hxp
  have HXM := Lib.hid hxl; clear hxl
  have HFY := Lib.hid hfy; clear hfy
  have HVL := Lib.hid hvl; clear hvl
  have HVN := Lib.hid hvn; clear hvn
  have HVP := Lib.hid hvp; clear hvp
  have HVD := Lib.hid hvlD; clear hvlD
  have HN0 := Lib.hid hN0; clear hN0
  go_enter Try.func98, Try.ntmps98
  go_wp2_with fail
  refine (Try.bits_Len _ _ (by omega) (by omega)).mono ?_
  rw [HBL.out]
  rintro e w1 ⟨rfl, rfl⟩
  go_wp2_with fail
  have hsc := scale_any (D y) (some ⟨b, off, none⟩) cb f 0 w1 hIb hdb (by rw [HN.out]; omega) (by omega) (by omega) (by omega) (by omega)
  rw [HN.out, nv_D hy, Int.add_zero, HV.out, HVD.out] at hsc
  rw [HWF.out]
  refine hsc.mono ?_
  clear hsc
  rintro e w2 ⟨v2, rfl, hown2, hb2'⟩
  obtain ⟨Av, cv, rfl, hcv, _, hIv⟩ := hown2.at_
  rw [HVL.out] at hown2 hcv ⊢
  have hs2 := hb2'.size
  go_wp2_with fail
  have hsc := scale_any (D x) Aa ca f 0 w2 ((hIa.below hb2').more hs2) (Dig_D x) (by rw [HM.out]; omega) (by omega) (by omega) (by omega) (by omega)
  rw [HM.out, nv_D hx, Int.add_zero, HX.out] at hsc
  refine hsc.mono ?_
  clear hsc
  rintro e w3 ⟨v3, rfl, hown3, hb3'⟩
  have hs3 := hb3'.size
  have hl0 : (D X).length = N0 := HN0.out
  have hu0n : nv (D X) = X := nv_D (by omega)
  have hu0d := Dig_D X
  obtain ⟨u0, hu0⟩ : ∃ l, D X = l := ⟨_, rfl⟩
  rw [hu0] at hown3 hl0 hu0n hu0d
  have HL0 := Lib.hid hl0; clear hl0
  have HU0 := Lib.hid hu0n; clear hu0n hu0
  have hle : u0.length ≤ N0 ∧ N0 ≤ u0.length := by have := HL0.out; omega
  go_wp2_with (at_builtin; refine appI rfl (.tmp 33) (.tmp 34) rfl w2.heap.size _ u0 0 rfl hown3 rfl (by omega) hs3 ?_; intro v4 w4 hown4 hb4)
  obtain ⟨gu, cu, rfl, hgu, hguw, hcu, hcum⟩ := hown4.pos (by simp)
  have hs4 := hb4.size
  obtain ⟨N, hN⟩ : ∃ N, (u0 ++ [0]).length = N := ⟨_, rfl⟩
  have hNN : N0 + 1 ≤ N ∧ N ≤ N0 + 1 := by rw [List.length_append, HL0.out] at hN; simp at hN; omega
  rw [hN] at hown4 hcu
  have HNL := Lib.hid hN
  rw [hN]
  clear hN
  -- the first two digits of the divisor
  obtain ⟨b1, o1, hA1, hB1, hc1⟩ := hIv (n - 1) (by rw [HVL.out]; omega)
  obtain ⟨b2, o2, hA2, hB2, hc2⟩ := hIv (n - 2) (by rw [HVL.out]; omega)
  rw [hA1] at hA2
  injection hA2 with hA2
  injection hA2 with hA2 hA3
  subst hA2; subst hA3; subst hA1
  have hfc := hb3'.trans (hb4.mono (Nat.le_refl _))
  have hc1' := (hfc.cell (p := ⟨b1, o1 + (n - 1), none⟩) hB1).trans hc1
  have hc2' := (hfc.cell (p := ⟨b1, o1 + (n - 2), none⟩) hB1).trans hc2
  have hd1 := hvd.getD' (n - 1)
  have hd2 := hvd.getD' (n - 2)
  have hft := first_two hvd HVL.out (by omega)
  rw [HVN.out] at hft
  have hp1 := HVP.out
  obtain ⟨p1, hp1e⟩ : ∃ d, vl.getD (n - 1) 0 = d := ⟨_, rfl⟩
  obtain ⟨p2, hp2e⟩ : ∃ d, vl.getD (n - 2) 0 = d := ⟨_, rfl⟩
  rw [hp1e] at hc1' hd1 hft hp1
  rw [hp2e] at hc2' hd2 hft
  clear hp1e hp2e hc1 hc2
  have hor := or_low (r := p1) (d := p2) hd1.1 (by omega) hd2.1 hd2.2
  obtain ⟨f1, hf1e⟩ : ∃ z, p1 * 1048576 + p2 = z := ⟨_, rfl⟩
  rw [hf1e] at hor hft
  have hf1b : 1048576 ≤ f1 ∧ f1 < 1099511627776 := by omega
  have HFT := Lib.hid hft; clear hft hf1e
  have hn1 : ((n : Int) - 1).toNat = n - 1 := by omega
  have hn2 : ((n : Int) - 2).toNat = n - 2 := by omega
  go_quiet (fail)
  clear hn1 hn2 hor hc1' hc2'
  have hown4' : OwnI (w4.drewN nq) w2.heap.size (.slice (some ⟨gu, 0, none⟩) N cu) (u0 ++ [0]) := hown4
  have hfc' : Below w2.heap.size w2 (w4.drewN nq) := ⟨hfc.os, hfc.tape, hfc.output, hfc.size, hfc.block⟩
  have hguw' : gu < (w4.drewN nq).heap.size := hguw
  clear hown4 hfc hb4 hguw hs4
  obtain ⟨w5, hw5⟩ : ∃ W, w4.drewN nq = W := ⟨_, rfl⟩
  rw [hw5] at hown4' hfc' hguw' ⊢
  clear hw5
  have hs5 := hfc'.size
  obtain ⟨M, hM⟩ : ∃ M, N = n + M := ⟨N - n, by omega⟩
  have hM2 : N ≤ n + M ∧ n + M ≤ N := by omega
  clear hM
  go_wp2_with (at_make; refine makeI rfl (.tmp 51) (.tmp 51) rfl w5.heap.size M M _ _ rfl rfl (by omega) (by omega) (by omega) (by omega) (Nat.le_refl _) ?_; intro w6 hown6 hb6 hsz6)
  obtain ⟨gq, hgq⟩ : ∃ g, w5.heap.size = g := ⟨_, rfl⟩
  have hown46 := hown4'.below hb6
  have hown66 := hown6.mono hs5
  rw [hgq] at hown66 hguw' ⊢
  have hgq2 : w2.heap.size ≤ gq := by omega
  have hb26 := hfc'.trans (hb6.mono hs5)
  clear hown4' hown6 hb6 hsz6 hfc' hgq hs5
  have hx2 : (u0 ++ [0]).drop M = u0.drop M ++ [0] := by rw [List.drop_append_of_le_length (by omega)]
  have hx3 : nv ((u0 ++ [0]).drop M) < V := by
    rw [hx2, nv_snoc, Int.mul_zero, Int.add_zero]
    have h1 := (hu0d.drop M).nv_lt
    rw [List.length_drop, show u0.length - M = n - 1 by omega] at h1
    have := HYP.out
    omega
  have HX3 := Lib.hid hx3; clear hx2 hx3
  go_loopw [12] (fun i wr => ∃ (k : Nat) (U qs : List Int), k ≤ M ∧ i = .int .i64 ((k : Int) - 1) ∧ Hid (U.length = N) ∧ Hid (qs.length = M) ∧ OwnI wr w2.heap.size (.slice (some ⟨gu, 0, none⟩) N cu) U ∧ OwnI wr w2.heap.size (.slice (some ⟨gq, 0, none⟩) M M) qs ∧ Hid (Dig U) ∧ Hid (Dig (qs.drop k)) ∧ Hid (nv (U.drop k) < V) ∧ Hid (nv U + V * (pw k * nv (qs.drop k)) = X) ∧ Below w2.heap.size w2 wr) (fun i _ => (intOf i + 1).toNat)
  case atStart => exact ⟨M, u0 ++ [0], List.replicate M 0, Nat.le_refl _, rfl, HNL, Lib.hid (by simp), hown46, hown66, Lib.hid (hu0d.snoc (by omega) (by omega)), Lib.hid (by rw [List.drop_of_length_le (by simp)]; exact Dig.nil), HX3, Lib.hid (by
      rw [List.drop_of_length_le (by simp), nv_nil, nv_snoc, HU0.out]; simp), hb26⟩
  case round =>
    obtain ⟨k, U, qs, hk, rfl, hUl, hql, hownU, hownQ, hdU, hdq, hR, htot, hbw⟩ := hrel
    by_cases hlt : 0 < k
    · obtain ⟨j, rfl⟩ : ∃ j, k = j + 1 := ⟨k - 1, by omega⟩
      have hca := hownU.cell (k := j + n) hUl.out (by omega)
      have hcb := hownU.cell (k := j + (n - 1)) hUl.out (by omega)
      have hcc := hownU.cell (k := j + (n - 2)) hUl.out (by omega)
      have hda := hdU.out.getD' (j + n)
      have hdb := hdU.out.getD' (j + (n - 1))
      have hdc := hdU.out.getD' (j + (n - 2))
      have h3 := first_three (j := j) hdU.out (show 2 ≤ n by omega)
      obtain ⟨a2, ha2⟩ : ∃ d, U.getD (j + n) 0 = d := ⟨_, rfl⟩
      obtain ⟨a1, ha1⟩ : ∃ d, U.getD (j + (n - 1)) 0 = d := ⟨_, rfl⟩
      obtain ⟨a0, ha0⟩ : ∃ d, U.getD (j + (n - 2)) 0 = d := ⟨_, rfl⟩
      rw [ha2] at hca hda h3
      rw [ha1] at hcb hdb h3
      rw [ha0] at hcc hdc h3
      have HA2 := Lib.hid ha2; clear ha2 ha1 ha0
      have H3 := Lib.hid h3; clear h3
      have hor1 := or_40 (r := a2) (d := a1) hda.1 (by omega) hdb.1 hdb.2
      have hor2 := or_low (r := a2 * 1048576 + a1) (d := a0) (by omega) (by omega) hdc.1 hdc.2
      rw [show (a2 * 1048576 + a1) * 1048576 = a2 * 1099511627776 + a1 * 1048576 by omega] at hor2
      have ht3 : 0 ≤ a2 * 1099511627776 + a1 * 1048576 + a0 ∧ a2 * 1099511627776 + a1 * 1048576 + a0 < 1152921504606846976 := by omega
      obtain ⟨t3, ht3e⟩ : ∃ z, a2 * 1099511627776 + a1 * 1048576 + a0 = z := ⟨_, rfl⟩
      rw [ht3e] at hor2 ht3
      have HT3 := Lib.hid ht3e; clear ht3e
      have hq0 := Int.ediv_nonneg (a := t3) (b := f1) ht3.1 (by omega)
      have hq1 := Int.mul_ediv_add_emod t3 f1
      have hq2 := Int.emod_nonneg t3 (b := f1) (by omega)
      have hq3 := Int.emod_lt_of_pos t3 (b := f1) (by omega)
      obtain ⟨Q, hQ⟩ : ∃ q, t3 / f1 = q := ⟨_, rfl⟩
      rw [hQ] at hq0 hq1
      have hq4 : Q * f1 ≤ t3 ∧ t3 < (Q + 1) * f1 := by rw [Int.add_mul, Int.one_mul, Int.mul_comm]; omega
      have HQ4 := Lib.hid hq4; clear hq1 hq2 hq3 hq4
      have hn1 : ((n : Int) - 1).toNat = n - 1 := by omega
      have hn2 : ((n : Int) - 2).toNat = n - 2 := by omega
      have hQ2 : t3.tdiv f1 = Q := by rw [← hQ, Int.tdiv_eq_ediv_of_nonneg ht3.1]
      have hqm : Q ≤ 1152921504606846976 := by rw [← hQ]; exact Int.le_trans (Int.ediv_le_self f1 ht3.1) (by omega)
      go_wp2_with fail
      rw [show j + n + 1 - j = n + 1 by omega]
      go_quiet (fail)
      clear hn1 hn2 hor1 hor2 hca hcb hcc hQ2
      obtain ⟨wq, hwq⟩ : ∃ W, wr.drewN nq = W := ⟨_, rfl⟩
      have hownU2 : OwnI wq w2.heap.size (.slice (some ⟨gu, 0, none⟩) N cu) U := by rw [← hwq]; exact hownU
      have hownQ2 : OwnI wq w2.heap.size (.slice (some ⟨gq, 0, none⟩) M M) qs := by rw [← hwq]; exact hownQ
      have hbq : Below w2.heap.size w2 wq := by rw [← hwq]; exact ⟨hbw.os, hbw.tape, hbw.output, hbw.size, hbw.block⟩
      rw [hwq]
      clear hwq hownU hownQ hbw
      go_wp2_with fail
      obtain ⟨G, hG⟩ : ∃ G, min 1048575 Q = G := ⟨_, rfl⟩
      rw [hG]
      have hG2 : 0 ≤ G ∧ G ≤ 1048575 ∧ (G = 1048575 ∨ G = Q) ∧ G ≤ Q := by omega
      clear hG
      have hG3 : G = 1048575 ∨ t3 < (G + 1) * f1 := by
        rcases hG2.2.2.1 with h | h
        · exact .inl h
        · rw [h]; exact .inr HQ4.out.2
      have hG4 : G * f1 ≤ t3 := Int.le_trans (Int.mul_le_mul_of_nonneg_right hG2.2.2.2 (by omega)) HQ4.out.1
      obtain ⟨hT1, hT2, hT3⟩ := window (j := j) hdU.out (by rw [hUl.out]; omega) hR.out HFY.out
      have hab0 := above_zero hdU.out hR.out HFY.out
      have h33 := H3.out
      rw [HT3.out] at h33
      have hlo := guess_lo (pw_pos (n - 2)) hf1b.1 HFT.out.1 HFT.out.2 h33.1 hG4 hG2.1 hG2.2.1
      have hhi := guess_hi (pw_pos (n - 2)) HFT.out.1 h33.2 hT3 hG3 hG2.1
      have hG5 : 0 ≤ G ∧ G ≤ 1048575 := ⟨hG2.1, hG2.2.1⟩
      obtain ⟨T, hTe⟩ : ∃ T, wn U j (n + 1) = T := ⟨_, rfl⟩
      rw [hTe] at hT1 hT2 hT3 hlo hhi
      rw [wn_succ, HA2.out] at hTe
      have HTE := Lib.hid hTe; clear hTe
      have HT1 := Lib.hid hT1; clear hT1
      have HAB := Lib.hid hab0; clear hab0
      clear HQ4 h33 hG2 hG3 hG4 hT3
      refine (subtract_any U vl gu j N cu (cu - j) cv w2.heap.size n (some ⟨b1, o1, none⟩) G wq HVL.out hUl.out (by omega) (by omega) (by omega) hownU2 (hIv.below hbq) hvd (by omega) (by omega) (fun i _ => hdU.out.getD' _) a2 HA2.out (by omega)).mono ?_
      rintro e w7 ⟨U1, t, rfl, hl1, hO1, hs1, hw1, ht1, hval, hgr⟩
      have hbw1 := wn_bd (U := U1) (o := j) (n := n) hw1
      rw [HVN.out, HTE.out] at hval
      have hownQ3 : OwnI w7 w2.heap.size (.slice (some ⟨gq, 0, none⟩) M M) qs := OwnI.grown hownQ2 hgr (.inr (by simp [Value.ownBlock]; omega))
      have hb7 : Below w2.heap.size w2 w7 := hbq.grown hgr hbq.size (fun k e => by cases e; exact hgu)
      have hpn := pw_pos n
      have hfyy := HFY.out
      have fin : ∀ (q : Int) (U' : List Int) (w' : World), OwnI w' w2.heap.size (.slice (some ⟨gu, 0, none⟩) N cu) U' → OwnI w' w2.heap.size (.slice (some ⟨gq, 0, none⟩) M M) qs → Below w2.heap.size w2 w' → U'.length = N → (∀ i, (i < j ∨ j + n < i) → U'.getD i 0 = U.getD i 0) → (∀ i, i < n → 0 ≤ U'.getD (j + i) 0 ∧ U'.getD (j + i) 0 < 1048576) → U'.getD (j + n) 0 = 0 → wn U' j n = T - q * V → 0 ≤ q → q < 1048576 → wn U' j n < V →
          ∃ (k : Nat) (U qs' : List Int), k ≤ M ∧ Value.int .i64 ((j : Int) - 1) = .int .i64 ((k : Int) - 1) ∧ Hid (U.length = N) ∧ Hid (qs'.length = M) ∧ OwnI (w'.setCell ⟨gq, j, none⟩ (.int .i64 q)) w2.heap.size (.slice (some ⟨gu, 0, none⟩) N cu) U ∧ OwnI (w'.setCell ⟨gq, j, none⟩ (.int .i64 q)) w2.heap.size (.slice (some ⟨gq, 0, none⟩) M M) qs' ∧ Hid (Dig U) ∧ Hid (Dig (qs'.drop k)) ∧ Hid (nv (U.drop k) < V) ∧ Hid (nv U + V * (pw k * nv (qs'.drop k)) = X) ∧ Below w2.heap.size w2 (w'.setCell ⟨gq, j, none⟩ (.int .i64 q)) := by
        intro q U' w' h1 h2 h3 h4 h5 h6 h7 h8 h9 h10 h11
        obtain ⟨c1, c2, c3⟩ := after_window hdU.out (by rw [h4, hUl.out]) HAB.out h5 h6 h7
        refine ⟨j, U', qs.set j q, by omega, rfl, Lib.hid h4, Lib.hid (by simp [hql.out]), OwnI.grown (row := some gq) h1 (grown_set (World.grownBy.refl _ _) _) (.inr (by simp [Value.ownBlock]; omega)), h2.store hql.out j q, Lib.hid c1, Lib.hid ?_, Lib.hid (by rw [c2]; exact h11), Lib.hid ?_, h3.setCell (p := ⟨gq, j, none⟩) hgq2 _⟩
        · rw [drop_set_eq (by rw [hql.out]; omega)]
          intro d hd
          rcases List.mem_cons.1 hd with rfl | hd
          · exact ⟨h9, h10⟩
          · exact hdq.out d hd
        · rw [drop_set_eq (by rw [hql.out]; omega), nv_cons]
          have h12 := htot.out
          rw [pw_succ] at h12
          rw [HT1.out] at c3
          exact round_q h12 c3 h8
      have FIN := Lib.hid fin; clear fin
      by_cases hsg : 0 ≤ T - G * V
      · have ht0 : t = 0 := by
          rcases Int.lt_or_le t 0 with h | h
          · have : pw n * t ≤ pw n * (-1) := Int.mul_le_mul_of_nonneg_left (by omega) (by omega)
            omega
          · rcases Int.lt_or_le 0 t with h' | h'
            · have : pw n * 1 ≤ pw n * t := Int.mul_le_mul_of_nonneg_left (by omega) (by omega)
              omega
            · omega
        subst ht0
        rw [Int.mul_zero, Int.add_zero] at hval
        have HVAL := Lib.hid hval; clear hval
        have HS1 := Lib.hid hs1; clear hs1
        have HW1 := Lib.hid hw1; clear hw1
        have HT1' := Lib.hid ht1; clear ht1
        have HL1 := Lib.hid hl1; clear hl1
        have hqc := hownQ3.cell (k := j) hql.out (by omega)
        have hqf := hownQ3.frozen (k := j) hql.out
        obtain ⟨z, hz⟩ : ∃ z, qs.getD j 0 = z := ⟨_, rfl⟩
        rw [hz] at hqc
        clear hz
        go_wp2_with fail
        go_roundw
        case rel => exact FIN.out G U1 w7 hO1 hownQ3 hb7 HL1.out HS1.out HW1.out HT1'.out HVAL.out hG5.1 (by omega) (by rw [HVAL.out]; exact hhi)
        case measure => simp [intOf]
      · have ht0 : t < 0 := by
          rcases Int.lt_or_le t 0 with h | h
          · exact h
          · have : pw n * 0 ≤ pw n * t := Int.mul_le_mul_of_nonneg_left (by omega) (by omega)
            omega
        have htb : -2097152 ≤ t := by
          rcases Int.lt_or_le t (-1) with h | h
          · have : pw n * t ≤ pw n * (-2) := Int.mul_le_mul_of_nonneg_left (by omega) (by omega)
            omega
          · omega
        have hG6 : 1 ≤ G := by
          rcases Int.lt_or_le 0 G with h | h
          · omega
          · have : G = 0 := by omega
            subst this
            rw [Int.zero_mul] at hsg
            omega
        have hV1 : (G - 1) * V = G * V - V := by rw [Int.sub_mul, Int.one_mul]
        have HVAL := Lib.hid hval; clear hval
        have HS1 := Lib.hid hs1; clear hs1
        have HW1 := Lib.hid hw1; clear hw1
        have HT1' := Lib.hid ht1; clear ht1
        have HL1 := Lib.hid hl1; clear hl1
        have HV1 := Lib.hid hV1; clear hV1
        rw [show decide (0 ≤ t) = false by simpa using ht0]
        go_wp2_with fail
        refine (subtract_any U1 vl gu j N cu (cu - j) cv w2.heap.size n (some ⟨b1, o1, none⟩) (-1) w7 HVL.out HL1.out (by omega) (by omega) (by omega) hO1 (hIv.below hb7) hvd (by omega) (by omega) HW1.out t HT1'.out (by omega)).mono ?_
        rintro e w8 ⟨U2, t2, rfl, hl2, hO2, hs2', hw2, ht2, hval2, hgr2⟩
        have hbw2 := wn_bd (U := U2) (o := j) (n := n) hw2
        rw [HVN.out, HVAL.out] at hval2
        have hownQ4 : OwnI w8 w2.heap.size (.slice (some ⟨gq, 0, none⟩) M M) qs := OwnI.grown hownQ3 hgr2 (.inr (by simp [Value.ownBlock]; omega))
        have hb8 : Below w2.heap.size w2 w8 := hb7.grown hgr2 hb7.size (fun k e => by cases e; exact hgu)
        have ht20 : t2 = 0 := by
          rcases Int.lt_or_le t2 0 with h | h
          · have : pw n * t2 ≤ pw n * (-1) := Int.mul_le_mul_of_nonneg_left (by omega) (by omega)
            omega
          · rcases Int.lt_or_le 0 t2 with h' | h'
            · have : pw n * 1 ≤ pw n * t2 := Int.mul_le_mul_of_nonneg_left (by omega) (by omega)
              omega
            · omega
        subst ht20
        rw [Int.mul_zero, Int.add_zero] at hval2
        have hval3 : wn U2 j n = T - (G - 1) * V := by rw [hval2, HV1.out]; omega
        have hval4 : wn U2 j n < V := by rw [hval2]; omega
        have hs3' : ∀ i, (i < j ∨ j + n < i) → U2.getD i 0 = U.getD i 0 := fun i hi => (hs2' i hi).trans (HS1.out i hi)
        have HS2 := Lib.hid hs3'; clear hs2' hs3'
        have HW2 := Lib.hid hw2; clear hw2
        have HT2 := Lib.hid ht2; clear ht2
        have HL2 := Lib.hid hl2; clear hl2
        have HVAL2 := Lib.hid hval3; clear hval2 hval3
        have HVAL4 := Lib.hid hval4; clear hval4
        have hqc := hownQ4.cell (k := j) hql.out (by omega)
        have hqf := hownQ4.frozen (k := j) hql.out
        obtain ⟨z, hz⟩ : ∃ z, qs.getD j 0 = z := ⟨_, rfl⟩
        rw [hz] at hqc
        clear hz
        go_wp2_with fail
        go_roundw
        case rel => exact FIN.out (G - 1) U2 w8 hO2 hownQ4 hb8 HL2.out HS2.out HW2.out HT2.out HVAL2.out (by omega) (by omega) HVAL4.out
        case measure => simp [intOf]
    · have : k = 0 := by omega
      subst this
      have h1 := htot.out
      have h2 := hR.out
      have h3 := hdq.out
      rw [List.drop_zero, pw_zero, Int.one_mul, ← HV.out, ← HX.out] at h1
      rw [List.drop_zero, ← HV.out] at h2
      rw [List.drop_zero] at h3
      have hnu := hdU.out.nv_nonneg
      have hy1 : 1 ≤ y := by have := HYP.out; have := pw_pos (n - 1); omega
      obtain ⟨hq, hr⟩ := unscale hf0 hy1 h1 hnu h2
      rw [HV.out] at h2
      have hlu : (D (nv U)).length ≤ n := (D_len_le hnu).2 (by have := HFY.out; omega)
      have HQ := Lib.hid hq; clear hq
      have HR2 := Lib.hid hr; clear hr h1 h2
      have hsw := hbw.size
      go_wp2_with fail
      refine (trim_any U _ _ w2.heap.size hownU hdU.out (by rw [hUl.out]; omega)).mono ?_
      rintro e w7 ⟨v7, rfl, hown7, rfl⟩
      obtain ⟨A7, c7, rfl, _, _, hI7⟩ := hown7.at_
      go_wp2_with fail
      refine (divideShort_any (D (nv U)) A7 c7 f _ hI7 (Dig_D _) (by omega) (by omega) (by omega)).mono ?_
      rw [nv_D hnu, HR2.out]
      rintro e w8 ⟨v8, rfl, hown8, hb8⟩
      have hq8 := hownQ.below hb8
      go_wp2_with fail
      refine (trim_any qs _ _ w2.heap.size hq8 h3 (by rw [hql.out]; omega)).mono ?_
      rintro e w9 ⟨v9, rfl, hown9, rfl⟩
      rw [HQ.out] at hown9
      go_wp2_with fail
      go_ret2
      exact ⟨v9, v8, rfl, hown9.mono hs2, hown8.mono (by omega), hb2'.trans ((hbw.mono hs2).trans (hb8.mono (by omega)))⟩

/-- The quotient and the remainder of two numbers. -/
theorem divide_any (x y : Int) (Aa Ab : Option Addr) (ca cb : Nat) (w : World) (hIa : IntsAt w.heap.size w Aa (D x)) (hIb : IntsAt w.heap.size w Ab (D y)) (hx : 0 ≤ x) (hy : 1 ≤ y) (hlb : (D y).length ≤ 150) (hla : (D x).length ≤ 150) :
    Calls Try.prog 87 #[.slice Aa (D x).length ca, .slice Ab (D y).length cb] w fun e w' => ∃ v1 v2, e = .returned (.tuple #[v1, v2]) ∧ OwnI w' w.heap.size v1 (D (x / y)) ∧ OwnI w' w.heap.size v2 (D (x % y)) ∧ Below w.heap.size w w' := by
  by_cases hlt : (D x).length < (D y).length
  · have hxy := D_len_cmp hx (by omega) hlt
    have h1 : x / y = 0 := Int.ediv_eq_zero_of_lt hx hxy
    have h2 : x % y = x := Int.emod_eq_of_lt hx hxy
    rw [h1, h2, D_zero]
    have hcl := clone_any (D x) Aa ca w hIa (by omega)
    obtain ⟨n, hn⟩ : ∃ n, (D y).length = n := ⟨_, rfl⟩
    obtain ⟨m, hm⟩ : ∃ m, (D x).length = m := ⟨_, rfl⟩
    rw [hn] at hlt ⊢
    rw [hm] at hlt hcl ⊢
    clear h1 h2 hn hm
    go_enter Try.func87, Try.ntmps87
    go_wp2_with fail
    refine hcl.mono ?_
    rintro e w1 ⟨v1, rfl, hown, hb⟩
    go_wp2_with fail
    go_ret2
    exact ⟨_, v1, rfl, OwnI.nil _ _, hown, hb⟩
  · have hge : (D y).length ≤ (D x).length := by omega
    by_cases h2 : (D y).length ≤ 2
    · have hyl : y < pw 2 := (D_len_le (by omega)).1 h2
      have hp2 : pw 2 = 1099511627776 := by decide
      rw [hp2] at hyl
      have hj := join_any Ab cb (D y) w hIb (Dig_D y) (by omega) (by rw [nv_D (by omega)]; omega)
      rw [nv_D (by omega)] at hj
      have hds := fun (w1 : World) (h : IntsAt w1.heap.size w1 Aa (D x)) => divideShort_any (D x) Aa ca y w1 h (Dig_D x) (by omega) (by omega) (by omega)
      rw [nv_D hx] at hds
      have hm0 := Int.emod_nonneg x (b := y) (by omega)
      have hm1 := Int.emod_lt_of_pos x (b := y) (by omega)
      obtain ⟨n, hn⟩ : ∃ n, (D y).length = n := ⟨_, rfl⟩
      obtain ⟨m, hm⟩ : ∃ m, (D x).length = m := ⟨_, rfl⟩
      rw [hn] at hlt hge h2 hlb hj ⊢
      rw [hm] at hlt hge hla hds ⊢
      have HJ := Lib.hid hj; clear hj
      have HDS := Lib.hid hds; clear hds
      clear hn hm hp2
      obtain ⟨r, hr⟩ : ∃ r, x % y = r := ⟨_, rfl⟩
      rw [hr] at hm0 hm1 HDS ⊢
      clear hr
      go_enter Try.func87, Try.ntmps87
      go_wp2_with fail
      refine HJ.out.mono ?_
      rintro e w1 ⟨rfl, hb1⟩
      have hs1 := hb1.size
      go_wp2_with fail
      refine (HDS.out w1 ((hIa.below hb1).more hs1)).mono ?_
      rintro e w2 ⟨v2, rfl, hown2, hb2⟩
      have hs2 := hb2.size
      go_wp2_with fail
      refine (split_any r _ hm0 (by omega)).mono ?_
      rintro e w3 ⟨v3, rfl, hown3, hb3⟩
      go_wp2_with fail
      go_ret2
      exact ⟨v2, v3, rfl, (hown2.below hb3).mono hs1, hown3.mono (by omega), hb1.trans ((hb2.mono hs1).trans (hb3.mono (by omega)))⟩
    · have hdl := divideLong_any x y Aa Ab ca cb w hIa hIb hx (by omega) (by omega) hge hla
      obtain ⟨n, hn⟩ : ∃ n, (D y).length = n := ⟨_, rfl⟩
      obtain ⟨m, hm⟩ : ∃ m, (D x).length = m := ⟨_, rfl⟩
      rw [hn] at hlt hge h2 hlb hdl ⊢
      rw [hm] at hlt hge hla hdl ⊢
      clear hn hm
      go_enter Try.func87, Try.ntmps87
      go_wp2_with fail
      refine hdl.mono ?_
      rintro e w1 ⟨v1, v2, rfl, h1, h2, hb⟩
      go_wp2_with fail
      go_ret2
      exact ⟨v1, v2, rfl, h1, h2, hb⟩

end Go.Proofs.Ytlbjaimgoiimgaa

namespace Go.Proofs.Ytlbjaimgoiimgaa
open Go.RowKit

def Blk (w : World) (g : Nat) (t : TypeId) (cs : Array Value) : Prop := w.heap[g]? = some (.cells cs t (0, 0))
section
variable {w w' : World} {g : Nat} {t : TypeId} {cs : Array Value}
theorem Blk.lt (h : Blk w g t cs) : g < w.heap.size := by
  rcases Nat.lt_or_ge g w.heap.size with hlt | hge
  · exact hlt
  · unfold Blk at h; rw [Array.getElem?_eq_none hge] at h; cases h
theorem Blk.cell (h : Blk w g t cs) (i : Nat) : w.cell? ⟨g, i, none⟩ = cs[i]? := cell_of_row w g i cs t (0, 0) h
theorem Blk.frozen (h : Blk w g t cs) (i : Nat) : w.frozen? ⟨g, i, none⟩ = false := by
  unfold Blk at h
  simp [World.frozen?, h]
theorem Blk.new (w : World) (t : TypeId) (cs : Array Value) : Blk (w.alloc (.cells cs t)) w.heap.size t cs := heap_alloc_new w _
theorem Blk.drewN (h : Blk w g t cs) (n : Nat) : Blk (w.drewN n) g t cs := h
theorem Blk.alloc (h : Blk w g t cs) (o : Obj) : Blk (w.alloc o) g t cs := (Below.heap_alloc w o g h.lt).trans h
theorem Blk.set_ (h : Blk w g t cs) (i : Nat) (u : Value) : Blk (w.setCell ⟨g, i, none⟩ u) g t (cs.setIfInBounds i u) := by
  unfold Blk at h ⊢
  simp [World.setCell, Array.getElem?_modify, h]
theorem Blk.far (h : Blk w g t cs) {p : Addr} (hp : g ≠ p.block) (u : Value) : Blk (w.setCell p u) g t cs := (Below.heap_setCell w p u g hp).trans h
theorem Blk.below {B : Nat} (h : Blk w g t cs) (hb : Below B w w') (hg : g < B) : Blk w' g t cs := (hb.block g hg).trans h
theorem Blk.set4 {a0 a1 a2 a3 : Value} (h : Blk w g t #[a0, a1, a2, a3]) (b0 b1 b2 b3 : Value) : Blk ((((w.setCell ⟨g, 0, none⟩ b0).setCell ⟨g, 1, none⟩ b1).setCell ⟨g, 2, none⟩ b2).setCell ⟨g, 3, none⟩ b3) g t #[b0, b1, b2, b3] := by
  simpa using (((h.set_ 0 b0).set_ 1 b1).set_ 2 b2).set_ 3 b3
end

set_option maxRecDepth 100000 in
set_option maxHeartbeats 2000000 in
theorem steps_any (xh yh : Int) (w : World) (h0 : 0 ≤ yh) (h1 : yh ≤ xh) (h2 : xh < 2199023255552) :
    Calls Try.prog 86 #[.int .i64 xh, .int .i64 yh] w fun e w' => ∃ A B C E : Int, e = .returned (.agg #[.int .i64 A, .int .i64 B, .int .i64 C, .int .i64 E]) ∧ Hid (∃ x y, Lehm xh yh x y A B C E) ∧ Hid (LehmAll xh yh A B C E) ∧ Below w.heap.size w w' := by
  obtain ⟨hl, ha⟩ := lehm_start h0 h1 h2
  have HL := Lib.hid hl
  have HA := Lib.hid ha
  clear hl ha
  go_enter Try.func86, Try.ntmps86
  go_wp2_with fail
  go_loopw [0, 1, 6] (fun xv yv _ wr => ∃ x y A B C E : Int, xv = .int .i64 x ∧ yv = .int .i64 y ∧ Hid (Lehm xh yh x y A B C E) ∧ Hid (LehmAll xh yh A B C E) ∧ Blk wr (w.heap.size + 1) 102 #[.int .i64 A, .int .i64 B, .int .i64 C, .int .i64 E] ∧ Blk wr w.heap.size 102 #[.int .i64 0, .int .i64 0, .int .i64 0, .int .i64 0] ∧ Below w.heap.size w wr) (fun _ yv _ _ => (intOf yv).toNat)
  case atStart => exact ⟨xh, yh, 1, 0, 0, 1, rfl, rfl, HL, HA, by have := Blk.new (w.alloc (.cells #[.int .i64 0, .int .i64 0, .int .i64 0, .int .i64 0] 102)) 102 #[.int .i64 1, .int .i64 0, .int .i64 0, .int .i64 1]; rw [World.size_alloc] at this; exact this, (Blk.new w 102 _).alloc _, ((Below.refl _ w).alloc (Nat.le_refl _) _).alloc (by simp) _⟩
  case round =>
    obtain ⟨x, y, A, B, C, E, rfl, rfl, hl, ha, hbm, hbr, hb⟩ := hrel
    obtain ⟨-, -, c1, c2, c3, c4, c5, c6, c7, c8, -, b1, b2, b3, b4, b5, b6, b7, b8⟩ := hl.out
    have k0 : wr.cell? ⟨w.heap.size + 1, 0, none⟩ = some (.int .i64 A) := hbm.cell 0
    have k1 : wr.cell? ⟨w.heap.size + 1, 1, none⟩ = some (.int .i64 B) := hbm.cell 1
    have k2 : wr.cell? ⟨w.heap.size + 1, 2, none⟩ = some (.int .i64 C) := hbm.cell 2
    have k3 : wr.cell? ⟨w.heap.size + 1, 3, none⟩ = some (.int .i64 E) := hbm.cell 3
    have f0 := hbm.frozen 0
    have f1 := hbm.frozen 1
    have f2 := hbm.frozen 2
    have f3 := hbm.frozen 3
    have r0 : wr.cell? ⟨w.heap.size, 0, none⟩ = some (.int .i64 0) := hbr.cell 0
    have r1 : wr.cell? ⟨w.heap.size, 1, none⟩ = some (.int .i64 0) := hbr.cell 1
    have r2 : wr.cell? ⟨w.heap.size, 2, none⟩ = some (.int .i64 0) := hbr.cell 2
    have r3 : wr.cell? ⟨w.heap.size, 3, none⟩ = some (.int .i64 0) := hbr.cell 3
    have g0 := hbr.frozen 0
    have g1 := hbr.frozen 1
    have g2 := hbr.frozen 2
    have g3 := hbr.frozen 3
    by_cases hC : y + C = 0
    · have hC' : ((y + C : Int) != 0) = false := by simpa using hC
      go_wp2_with fail
      refine bodyPost_ret (results_cell_row rfl _ _ w.heap.size 102 #[.int .i64 A, .int .i64 B, .int .i64 C, .int .i64 E] (0, 0) _ rfl (hbr.set4 _ _ _ _) Try.underlying102 rfl (by kernel_rfl)) rfl ?_
      exact ⟨A, B, C, E, rfl, Lib.hid ⟨x, y, hl.out⟩, ha, (((hb.setCell (p := ⟨w.heap.size, 0, none⟩) (Nat.le_refl _) _).setCell (p := ⟨w.heap.size, 1, none⟩) (Nat.le_refl _) _).setCell (p := ⟨w.heap.size, 2, none⟩) (Nat.le_refl _) _).setCell (p := ⟨w.heap.size, 3, none⟩) (Nat.le_refl _) _⟩
    · by_cases hE : y + E = 0
      · have hC' : ((y + C : Int) != 0) = true := by simpa using hC
        have hE' : ((y + E : Int) != 0) = false := by simpa using hE
        go_wp2_with fail
        refine bodyPost_ret (results_cell_row rfl _ _ w.heap.size 102 #[.int .i64 A, .int .i64 B, .int .i64 C, .int .i64 E] (0, 0) _ rfl (hbr.set4 _ _ _ _) Try.underlying102 rfl (by kernel_rfl)) rfl ?_
        exact ⟨A, B, C, E, rfl, Lib.hid ⟨x, y, hl.out⟩, ha, (((hb.setCell (p := ⟨w.heap.size, 0, none⟩) (Nat.le_refl _) _).setCell (p := ⟨w.heap.size, 1, none⟩) (Nat.le_refl _) _).setCell (p := ⟨w.heap.size, 2, none⟩) (Nat.le_refl _) _).setCell (p := ⟨w.heap.size, 3, none⟩) (Nat.le_refl _) _⟩
      · have hC' : ((y + C : Int) != 0) = true := by simpa using hC
        have hE' : ((y + E : Int) != 0) = true := by simpa using hE
        have hC2 : ((y + C : Int) == 0) = false := by simpa using hC
        have hE2 : ((y + E : Int) == 0) = false := by simpa using hE
        have hq0 : 0 ≤ (x + A) / (y + C) := Int.ediv_nonneg (by omega) (by omega)
        have hp0 : 0 ≤ (x + B) / (y + E) := Int.ediv_nonneg (by omega) (by omega)
        have hq2 : (x + A) / (y + C) ≤ x + A := Int.ediv_le_self _ (by omega)
        have hp2 : (x + B) / (y + E) ≤ x + B := Int.ediv_le_self _ (by omega)
        have hst := fun h => lehm_step hl.out ha.out (by omega) (by omega) (q := (x + A) / (y + C)) rfl h
        obtain ⟨q, hq⟩ : ∃ q, (x + A) / (y + C) = q := ⟨_, rfl⟩
        obtain ⟨p, hp⟩ : ∃ p, (x + B) / (y + E) = p := ⟨_, rfl⟩
        rw [hq] at hq0 hq2 hst
        rw [hp] at hp0 hp2 hst
        by_cases hpq : q = p
        · obtain ⟨hst1, hst2, hst3⟩ := hst hpq
          have HS1 := Lib.hid hst1
          have HS2 := Lib.hid hst2
          obtain ⟨-, -, d1, d2, d3, d4, d5, d6, d7, d8, -, e1, e2, e3, e4, e5, e6, e7, e8⟩ := hst1
          clear hst2 hst
          subst hpq
          go_wp2_with fail
          go_roundw
          case rel => exact ⟨_, _, _, _, _, _, rfl, rfl, HS1, HS2, hbm.set4 _ _ _ _, (((hbr.far (by simp) _).far (by simp) _).far (by simp) _).far (by simp) _, (((hb.setCell (p := ⟨w.heap.size + 1, 0, none⟩) (by simp) _).setCell (p := ⟨w.heap.size + 1, 1, none⟩) (by simp) _).setCell (p := ⟨w.heap.size + 1, 2, none⟩) (by simp) _).setCell (p := ⟨w.heap.size + 1, 3, none⟩) (by simp) _⟩
          case measure => simp [intOf]; omega
        · have hpq' : (q != p) = true := by simpa using hpq
          clear hst
          go_wp2_with fail
          refine bodyPost_ret (results_cell_row rfl _ _ w.heap.size 102 #[.int .i64 A, .int .i64 B, .int .i64 C, .int .i64 E] (0, 0) _ rfl (hbr.set4 _ _ _ _) Try.underlying102 rfl (by kernel_rfl)) rfl ?_
          exact ⟨A, B, C, E, rfl, Lib.hid ⟨x, y, hl.out⟩, ha, (((hb.setCell (p := ⟨w.heap.size, 0, none⟩) (Nat.le_refl _) _).setCell (p := ⟨w.heap.size, 1, none⟩) (Nat.le_refl _) _).setCell (p := ⟨w.heap.size, 2, none⟩) (Nat.le_refl _) _).setCell (p := ⟨w.heap.size, 3, none⟩) (Nat.le_refl _) _⟩

end Go.Proofs.Ytlbjaimgoiimgaa

namespace Go.Proofs.Ytlbjaimgoiimgaa
open Go.RowKit

/-- A slice value that reads as the ints l, in blocks below B. -/
def Sl (w : World) (B : Nat) (v : Value) (l : List Int) : Prop := ∃ A c, v = .slice A l.length c ∧ l.length ≤ c ∧ c ≤ 9223372036854775807 ∧ IntsAt B w A l
theorem OwnI.sl {w : World} {B : Nat} {v : Value} {l : List Int} (h : OwnI w B v l) : Sl w w.heap.size v l := h.at_
theorem Sl.below {w w' : World} {B : Nat} {v : Value} {l : List Int} (h : Sl w B v l) (hb : Below B w w') : Sl w' B v l := by
  obtain ⟨A, c, e, hc, hm, hI⟩ := h
  exact ⟨A, c, e, hc, hm, hI.below hb⟩
theorem Sl.more {w : World} {B B' : Nat} {v : Value} {l : List Int} (h : Sl w B v l) (hb : B ≤ B') : Sl w B' v l := by
  obtain ⟨A, c, e, hc, hm, hI⟩ := h
  exact ⟨A, c, e, hc, hm, hI.more hb⟩

theorem bcell {W w1 : World} (hb : Below W.heap.size W w1) : (∀ b o, b < W.heap.size → w1.cell? ⟨b, o, none⟩ = W.cell? ⟨b, o, none⟩) ∧ (∀ b o, b < W.heap.size → w1.frozen? ⟨b, o, none⟩ = W.frozen? ⟨b, o, none⟩) :=
  ⟨fun b o h => hb.cell (p := ⟨b, o, none⟩) h, fun b o h => hb.frozen (p := ⟨b, o, none⟩) h⟩

/-- The highest bits of a number. -/
theorem high {X P Q x s : Int} (hP : 0 < P) (hQ : 0 < Q) (hx : X / P = x) (hs : x / Q = s) : ∃ r, 0 ≤ r ∧ r < P * Q ∧ X = s * (P * Q) + r := by
  refine ⟨X % (P * Q), Int.emod_nonneg _ (by have := Int.mul_pos hP hQ; omega), Int.emod_lt_of_pos _ (Int.mul_pos hP hQ), ?_⟩
  rw [← hs, ← hx, Int.ediv_ediv_of_nonneg (by omega), Int.mul_comm (X / (P * Q)), Int.mul_ediv_add_emod]

theorem shr_bits {x : Int} {bl : Nat} (hb : bl = Lib.bitLen x.toNat) (h0 : 1099511627776 ≤ x) (h1 : x < 1152921504606846976) : 41 ≤ bl ∧ bl ≤ 60 ∧ x / 2 ^ (bl - 41) < 2199023255552 ∧ (0 : Int) < 2 ^ (bl - 41) := by
  have h2 := Lib.bitLenAux_bounds 64 x.toNat (by omega) (by omega)
  have h3 : Lib.bitLenAux 64 x.toNat = bl := hb.symm
  rw [h3] at h2
  have h4 := Lib.bitLen_le x.toNat 60 (by omega) (by omega)
  rw [← hb] at h4
  have h5 : 41 ≤ bl := by
    rcases Nat.lt_or_ge 40 bl with h | h
    · omega
    · have h6 : 2 ^ bl ≤ 2 ^ 40 := Nat.pow_le_pow_right (by omega) h
      have := h2.2.2
      omega
  have h6 : (0 : Int) < 2 ^ (bl - 41) := Int.pow_pos (by omega)
  refine ⟨h5, h4, Int.ediv_lt_of_lt_mul h6 ?_, h6⟩
  have h7 : (x.toNat : Int) < ((2 ^ bl : Nat) : Int) := by have := h2.2.2; omega
  rw [Int.natCast_pow] at h7
  have h8 : (2 : Int) ^ bl = 2199023255552 * 2 ^ (bl - 41) := by
    rw [show (2199023255552 : Int) = 2 ^ 41 by decide, ← Int.pow_add]; congr 1; omega
  have h9 : ((2 : Nat) : Int) ^ bl = (2 : Int) ^ bl := rfl
  rw [h9, h8] at h7
  omega

def CloserPost (X Y : Int) (w : World) (e : Ending) (w' : World) : Prop := ∃ v1 v2 X' Y', e = .returned (.tuple #[v1, v2]) ∧ Sl w' w'.heap.size v1 (D X') ∧ Sl w' w'.heap.size v2 (D Y') ∧ 0 ≤ Y' ∧ Y' ≤ X' ∧ Y' < Y ∧ X' ≤ X ∧ Int.gcd X' Y' = Int.gcd X Y ∧ Below w.heap.size w w'

set_option maxRecDepth 100000 in
set_option maxHeartbeats 2000000 in
theorem closer_any (X Y : Int) (Aa Ab : Option Addr) (ca cb : Nat) (w : World) (hIa : IntsAt w.heap.size w Aa (D X)) (hIb : IntsAt w.heap.size w Ab (D Y)) (hca : (D X).length ≤ ca) (hcb : (D Y).length ≤ cb) (hcm : cb ≤ 9223372036854775807) (hY : 0 ≤ Y) (hYX : Y ≤ X) (hlb : 3 ≤ (D Y).length) (hla : (D X).length ≤ 150) :
    Calls Try.prog 68 #[.slice Aa (D X).length ca, .slice Ab (D Y).length cb] w (CloserPost X Y w) := by
  have hX : 0 ≤ X := by omega
  have hyl := (D_len_lt hY (k := 2)).1 (by omega)
  have hlab : (D Y).length ≤ (D X).length := by
    have := (D_len_le hX (k := (D X).length)).1 (Nat.le_refl _)
    exact (D_len_le hY).2 (by omega)
  obtain ⟨n, hn⟩ : ∃ n, (D X).length = n := ⟨_, rfl⟩
  have hxn : X < pw n := (D_len_le hX).1 (by omega)
  have hxn1 : pw (n - 1) ≤ X := (D_len_lt hX).1 (by omega)
  obtain ⟨b1, o1, hA1, _, _⟩ := hIa 0 (by omega)
  obtain ⟨b2, o2, hA2, _, _⟩ := hIb 0 (by omega)
  subst hA1; subst hA2
  have hL1 := leading_any X b1 o1 ca n w hIa hX hca (by omega) (by omega) (by omega) (by omega)
  have hL2 := fun (w1 : World) (hb : Below w.heap.size w w1) => leading_any Y b2 o2 cb n w1 ((hIb.below hb).more hb.size) hY hcb (by omega) (by omega) (by omega) (by omega)
  have hcmb := fun (x y : Int) (w1 : World) (hb : Below w.heap.size w w1) => combine_any (D X) (D Y) (some ⟨b1, o1, none⟩) (some ⟨b2, o2, none⟩) ca cb x y w1 ((hIa.below hb).more hb.size) ((hIb.below hb).more hb.size) (Dig_D X) (Dig_D Y) (by omega) (by omega)
  have hdv := fun (w1 : World) (hb : Below w.heap.size w w1) => divide_any X Y (some ⟨b1, o1, none⟩) (some ⟨b2, o2, none⟩) ca cb w1 ((hIa.below hb).more hb.size) ((hIb.below hb).more hb.size) hX (by have := pw_pos 2; omega) (by omega) (by omega)
  have hp3 := pw_pos (n - 3)
  have hx0 : pw 2 ≤ X / pw (n - 3) := by
    refine Int.le_ediv_of_mul_le hp3 ?_
    rw [← pw_add, show 2 + (n - 3) = n - 1 by omega]; exact hxn1
  have hx1 : X / pw (n - 3) < pw 3 := by
    refine Int.ediv_lt_of_lt_mul hp3 ?_
    rw [← pw_add, show 3 + (n - 3) = n by omega]; exact hxn
  have hy0 : 0 ≤ Y / pw (n - 3) := Int.ediv_nonneg hY (by omega)
  have hyx : Y / pw (n - 3) ≤ X / pw (n - 3) := Int.ediv_le_ediv hp3 hYX
  rw [show pw 2 = 1099511627776 by decide] at hx0
  rw [show pw 3 = 1152921504606846976 by decide] at hx1
  rw [hn] at hL1 hcmb hdv ⊢
  obtain ⟨nb, hnb⟩ : ∃ n, (D Y).length = n := ⟨_, rfl⟩
  have hnb3 : 3 ≤ nb ∧ nb ≤ n ∧ n ≤ 150 := by omega
  rw [hnb] at hL2 hcmb hdv ⊢
  obtain ⟨x, hx⟩ : ∃ x, X / pw (n - 3) = x := ⟨_, rfl⟩
  obtain ⟨y, hy⟩ : ∃ x, Y / pw (n - 3) = x := ⟨_, rfl⟩
  rw [hx] at hx0 hx1 hyx hL1
  rw [hy] at hy0 hyx hL2
  obtain ⟨bl, hbl⟩ : ∃ b, b = Lib.bitLen x.toNat := ⟨_, rfl⟩
  obtain ⟨hb1, hb2, hb3, hb4⟩ := shr_bits hbl hx0 hx1
  have hs0 : 0 ≤ y / 2 ^ (bl - 41) := Int.ediv_nonneg hy0 (by omega)
  have hs1 : y / 2 ^ (bl - 41) ≤ x / 2 ^ (bl - 41) := Int.ediv_le_ediv hb4 hyx
  obtain ⟨Q, hQ⟩ : ∃ Q : Int, 2 ^ (bl - 41) = Q := ⟨_, rfl⟩
  rw [hQ] at hb3 hb4 hs0 hs1
  obtain ⟨xh, hxh⟩ : ∃ z, x / Q = z := ⟨_, rfl⟩
  obtain ⟨yh, hyh⟩ : ∃ z, y / Q = z := ⟨_, rfl⟩
  rw [hxh] at hb3 hs1
  rw [hyh] at hs0 hs1
  obtain ⟨r, hr0, hr1, hr⟩ := high hp3 hb4 hx hxh
  obtain ⟨t, ht0, ht1, ht⟩ := high hp3 hb4 hy hyh
  have hPQ := Int.mul_pos hp3 hb4
  have HL1 := Lib.hid hL1; clear hL1
  have HL2 := Lib.hid hL2; clear hL2
  have HC := Lib.hid hcmb; clear hcmb
  have HD := Lib.hid hdv; clear hdv
  have HR := Lib.hid hr; clear hr
  have HT := Lib.hid ht; clear ht
  have HX := Lib.hid hx; clear hx
  have HY := Lib.hid hy; clear hy
  have HXH := Lib.hid hxh; clear hxh
  have HYH := Lib.hid hyh; clear hyh
  have HN := Lib.hid hn; clear hn
  have HNB := Lib.hid hnb; clear hnb
  have HQ := Lib.hid hQ; clear hQ
  have HBL := Lib.hid hbl; clear hbl
  clear hxn hxn1 hyl hlab hla hlb
  go_enter Try.func68, Try.ntmps68
  go_wp2_with fail
  refine HL1.out.mono ?_
  rintro e w1 ⟨rfl, hb1'⟩
  go_wp2_with fail
  refine (HL2.out w1 hb1').mono ?_
  rintro e w2 ⟨rfl, hb2'⟩
  have hb02 := hb1'.trans (hb2'.mono hb1'.size)
  go_wp2_with fail
  refine (Try.bits_Len _ _ (by omega) (by omega)).mono ?_
  rw [← HBL.out]
  rintro e w3 ⟨rfl, rfl⟩
  go_wp2_with fail
  have HRX : Hid (X = xh * (pw (n - 3) * Q) + r) := HR
  have HTY : Hid (Y = yh * (pw (n - 3) * Q) + t) := HT
  have hdx : x / 2 ^ (bl - 41) = xh := by rw [HQ.out]; exact HXH.out
  have hdy : y / 2 ^ (bl - 41) = yh := by rw [HQ.out]; exact HYH.out
  have hsn : ((bl : Int) - 41).toNat = bl - 41 := by omega
  have hst := fun w' => steps_any xh yh w' hs0 hs1 hb3
  have HST := Lib.hid hst; clear hst
  go_region_held3 (fun _ => True) (trivial) (first | (go_at_call 86; refine (HST.out _).mono ?_; rintro e w4 ⟨A, B, C, E, rfl, hle, hlall, hb4'⟩; obtain ⟨hcq, hfq⟩ := bcell hb4'; have hsq := hb4'.size))
  rotate_left
  · obtain ⟨W, hW⟩ : ∃ W, W = ((((w4.setCell ⟨w3.heap.size, 0, none⟩ (.int .i64 A)).setCell ⟨w3.heap.size, 1, none⟩ (.int .i64 B)).setCell ⟨w3.heap.size, 2, none⟩ (.int .i64 C)).setCell ⟨w3.heap.size, 3, none⟩ (.int .i64 E)) := ⟨_, rfl⟩
    rw [← hW]
    obtain ⟨mb, hmb⟩ : ∃ m, w3.heap.size = m := ⟨_, rfl⟩
    have hs3 := hb02.size
    have hbm : Blk W mb 102 #[.int .i64 A, .int .i64 B, .int .i64 C, .int .i64 E] := by
      rw [hW, ← hmb]
      exact Blk.set4 (Blk.below (w := (w3.alloc (.cells #[.int .i64 0, .int .i64 0, .int .i64 0, .int .i64 0] 102)).drew) (Blk.new w3 102 #[.int .i64 0, .int .i64 0, .int .i64 0, .int .i64 0]) hb4' (by simp)) _ _ _ _
    have hbW : Below w.heap.size w W := by
      have h4 : Below w.heap.size w w4 := hb02.trans (((Below.refl w3.heap.size w3).alloc (Nat.le_refl _) (.cells #[.int .i64 0, .int .i64 0, .int .i64 0, .int .i64 0] 102)).drew.mono hs3 |>.trans (hb4'.mono (by simp; omega)))
      rw [hW]
      exact (((h4.setCell (p := ⟨w3.heap.size, 0, none⟩) hs3 _).setCell (p := ⟨w3.heap.size, 1, none⟩) hs3 _).setCell (p := ⟨w3.heap.size, 2, none⟩) hs3 _).setCell (p := ⟨w3.heap.size, 3, none⟩) hs3 _
    rw [hmb]
    obtain ⟨_, _, lb⟩ := hle.out
    clear hW hcq hfq hmb hsq hb4'
    obtain ⟨-, -, hl1⟩ := lb
    by_cases hB0 : B = 0
    · have hB1 : (B == 0) = true := by simpa using hB0
      have k1 := hbm.cell 1
      have hdv := HD.out W hbW
      clear hbm hl1
      go_wp2_with fail
      refine hdv.mono ?_
      rintro e w5 ⟨v1, v2, rfl, hq, hrm, hb5⟩
      go_wp2_with fail
      go_ret2
      have hbb := hbW.trans (hb5.mono hbW.size)
      have hy1 : 1 ≤ Y := by
        have h := HNB.out
        rcases Int.lt_or_le 0 Y with h' | h'
        · exact h'
        · rw [D_np h'] at h; simp at h; omega
      refine ⟨_, v2, Y, X % Y, rfl, ⟨_, cb, by rw [HNB.out]; rfl, hcb, hcm, (hIb.below hbb).more hbb.size⟩, hrm.sl, Int.emod_nonneg _ (by omega), Int.le_of_lt (Int.emod_lt_of_pos _ (by omega)), Int.emod_lt_of_pos _ (by omega), hYX, ?_, hbb⟩
      rw [Int.emod_def, Int.gcd_comm, Int.gcd_comm X Y, Int.gcd_comm _ Y, Int.mul_comm, Int.gcd_sub_mul_right_right]
    · have hB1 : (B == 0) = false := by simpa using hB0
      obtain ⟨q1, q2, q3, q4, q5, q6⟩ := hlall.out _ _ _ hPQ hr0 hr1 ht0 ht1 (by rw [← HRX.out, ← HTY.out]; exact hYX)
      rw [← HRX.out, ← HTY.out] at q1 q2 q3 q4 q5 q6
      have hc1 := fun (w1 : World) (hb : Below w.heap.size w w1) => HC.out A B w1 hb (by omega) (by omega) (by omega) (by omega) (by rw [nv_D hX, nv_D hY]; omega)
      have hc2 := fun (w1 : World) (hb : Below w.heap.size w w1) => HC.out C E w1 hb (by omega) (by omega) (by omega) (by omega) (by rw [nv_D hX, nv_D hY]; omega)
      rw [nv_D hX, nv_D hY] at hc1 hc2
      obtain ⟨X', hX'⟩ : ∃ z, A * X + B * Y = z := ⟨_, rfl⟩
      obtain ⟨Y', hY'⟩ : ∃ z, C * X + E * Y = z := ⟨_, rfl⟩
      rw [hX', hY'] at q2 q5
      rw [hX'] at q6
      rw [hY'] at q1 q3 q4 hc2
      rw [hX'] at hc1
      clear hX' hY'
      have HC1 := Lib.hid hc1; clear hc1
      have HC2 := Lib.hid hc2; clear hc2
      have k0 : W.cell? ⟨mb, 0, none⟩ = some (.int .i64 A) := hbm.cell 0
      have k1 : W.cell? ⟨mb, 1, none⟩ = some (.int .i64 B) := hbm.cell 1
      have k2 : W.cell? ⟨mb, 2, none⟩ = some (.int .i64 C) := hbm.cell 2
      have k3 : W.cell? ⟨mb, 3, none⟩ = some (.int .i64 E) := hbm.cell 3
      have hlt := hbm.lt
      have Q5 := Lib.hid q5; clear q5
      have q7 := q4 hB0
      clear q4
      have e0 : ∀ W' : World, Below W.heap.size W W' → W'.cell? ⟨mb, 0, none⟩ = some (.int .i64 A) ∧ W'.cell? ⟨mb, 1, none⟩ = some (.int .i64 B) ∧ W'.cell? ⟨mb, 2, none⟩ = some (.int .i64 C) ∧ W'.cell? ⟨mb, 3, none⟩ = some (.int .i64 E) ∧ Below W.heap.size W W' := fun W' hW => ⟨(hW.cell (p := ⟨mb, 0, none⟩) hlt).trans k0, (hW.cell (p := ⟨mb, 1, none⟩) hlt).trans k1, (hW.cell (p := ⟨mb, 2, none⟩) hlt).trans k2, (hW.cell (p := ⟨mb, 3, none⟩) hlt).trans k3, hW⟩
      have E0 := Lib.hid e0; clear e0
      have hB00 : Below W.heap.size W W.drew := (Below.refl _ _).drew
      go_wp2_with fail
      go_region_held3 (fun w' => w'.cell? ⟨mb, 0, none⟩ = some (.int .i64 A) ∧ w'.cell? ⟨mb, 1, none⟩ = some (.int .i64 B) ∧ w'.cell? ⟨mb, 2, none⟩ = some (.int .i64 C) ∧ w'.cell? ⟨mb, 3, none⟩ = some (.int .i64 E) ∧ Below W.heap.size W w')
        (first | exact E0.out _ (by assumption))
        (first
          | (go_at_call_of 76 (Value.int .i64 A); refine (HC1.out _ (hbW.trans (Below.mono (by assumption) hbW.size))).mono ?_; rintro e w5 ⟨v1, rfl, hown1, hb5⟩; have hB5 : Below W.heap.size W w5 := hB00.trans (hb5.mono (by simp)))
          | (go_at_call_of 76 (Value.int .i64 C); refine (HC2.out _ (hbW.trans (Below.mono (by assumption) hbW.size))).mono ?_; rintro e w6 ⟨v2, rfl, hown2, hb6⟩; have hB6 : Below W.heap.size W w6 := hB5.trans (hb6.mono hB5.size)))
      go_wp2_with fail
      go_ret2
      exact ⟨v1, v2, X', Y', rfl, (hown1.below hb6).sl, hown2.sl, q1, q2, q7, q6, Q5.out, hbW.trans (hB6.mono hbW.size)⟩
  · obtain ⟨W, hW⟩ : ∃ W, W = w4.alloc (.cells #[.int .i64 A, .int .i64 B, .int .i64 C, .int .i64 E] 102) := ⟨_, rfl⟩
    rw [← hW]
    obtain ⟨mb, hmb⟩ : ∃ m, w4.heap.size = m := ⟨_, rfl⟩
    have hs3 := hb02.size
    have hbm : Blk W mb 102 #[.int .i64 A, .int .i64 B, .int .i64 C, .int .i64 E] := by rw [hW, ← hmb]; exact Blk.new _ _ _
    have hbW : Below w.heap.size w W := by
      have h4 : Below w.heap.size w w4 := hb02.trans (Below.mono (w := w3) (w' := w4) ⟨hb4'.os, hb4'.tape, hb4'.output, hb4'.size, hb4'.block⟩ hs3)
      rw [hW]
      exact h4.alloc h4.size _
    rw [hmb]
    obtain ⟨_, _, lb⟩ := hle.out
    clear hW hcq hfq hmb hsq hb4'
    obtain ⟨-, -, hl1⟩ := lb
    by_cases hB0 : B = 0
    · have hB1 : (B == 0) = true := by simpa using hB0
      have k1 := hbm.cell 1
      have hdv := HD.out W hbW
      clear hbm hl1
      go_wp2_with fail
      refine hdv.mono ?_
      rintro e w5 ⟨v1, v2, rfl, hq, hrm, hb5⟩
      go_wp2_with fail
      go_ret2
      have hbb := hbW.trans (hb5.mono hbW.size)
      have hy1 : 1 ≤ Y := by
        have h := HNB.out
        rcases Int.lt_or_le 0 Y with h' | h'
        · exact h'
        · rw [D_np h'] at h; simp at h; omega
      refine ⟨_, v2, Y, X % Y, rfl, ⟨_, cb, by rw [HNB.out]; rfl, hcb, hcm, (hIb.below hbb).more hbb.size⟩, hrm.sl, Int.emod_nonneg _ (by omega), Int.le_of_lt (Int.emod_lt_of_pos _ (by omega)), Int.emod_lt_of_pos _ (by omega), hYX, ?_, hbb⟩
      rw [Int.emod_def, Int.gcd_comm, Int.gcd_comm X Y, Int.gcd_comm _ Y, Int.mul_comm, Int.gcd_sub_mul_right_right]
    · have hB1 : (B == 0) = false := by simpa using hB0
      obtain ⟨q1, q2, q3, q4, q5, q6⟩ := hlall.out _ _ _ hPQ hr0 hr1 ht0 ht1 (by rw [← HRX.out, ← HTY.out]; exact hYX)
      rw [← HRX.out, ← HTY.out] at q1 q2 q3 q4 q5 q6
      have hc1 := fun (w1 : World) (hb : Below w.heap.size w w1) => HC.out A B w1 hb (by omega) (by omega) (by omega) (by omega) (by rw [nv_D hX, nv_D hY]; omega)
      have hc2 := fun (w1 : World) (hb : Below w.heap.size w w1) => HC.out C E w1 hb (by omega) (by omega) (by omega) (by omega) (by rw [nv_D hX, nv_D hY]; omega)
      rw [nv_D hX, nv_D hY] at hc1 hc2
      obtain ⟨X', hX'⟩ : ∃ z, A * X + B * Y = z := ⟨_, rfl⟩
      obtain ⟨Y', hY'⟩ : ∃ z, C * X + E * Y = z := ⟨_, rfl⟩
      rw [hX', hY'] at q2 q5
      rw [hX'] at q6
      rw [hY'] at q1 q3 q4 hc2
      rw [hX'] at hc1
      clear hX' hY'
      have HC1 := Lib.hid hc1; clear hc1
      have HC2 := Lib.hid hc2; clear hc2
      have k0 : W.cell? ⟨mb, 0, none⟩ = some (.int .i64 A) := hbm.cell 0
      have k1 : W.cell? ⟨mb, 1, none⟩ = some (.int .i64 B) := hbm.cell 1
      have k2 : W.cell? ⟨mb, 2, none⟩ = some (.int .i64 C) := hbm.cell 2
      have k3 : W.cell? ⟨mb, 3, none⟩ = some (.int .i64 E) := hbm.cell 3
      have hlt := hbm.lt
      have Q5 := Lib.hid q5; clear q5
      have q7 := q4 hB0
      clear q4
      have e0 : ∀ W' : World, Below W.heap.size W W' → W'.cell? ⟨mb, 0, none⟩ = some (.int .i64 A) ∧ W'.cell? ⟨mb, 1, none⟩ = some (.int .i64 B) ∧ W'.cell? ⟨mb, 2, none⟩ = some (.int .i64 C) ∧ W'.cell? ⟨mb, 3, none⟩ = some (.int .i64 E) ∧ Below W.heap.size W W' := fun W' hW => ⟨(hW.cell (p := ⟨mb, 0, none⟩) hlt).trans k0, (hW.cell (p := ⟨mb, 1, none⟩) hlt).trans k1, (hW.cell (p := ⟨mb, 2, none⟩) hlt).trans k2, (hW.cell (p := ⟨mb, 3, none⟩) hlt).trans k3, hW⟩
      have E0 := Lib.hid e0; clear e0
      have hB00 : Below W.heap.size W W.drew := (Below.refl _ _).drew
      go_wp2_with fail
      go_region_held3 (fun w' => w'.cell? ⟨mb, 0, none⟩ = some (.int .i64 A) ∧ w'.cell? ⟨mb, 1, none⟩ = some (.int .i64 B) ∧ w'.cell? ⟨mb, 2, none⟩ = some (.int .i64 C) ∧ w'.cell? ⟨mb, 3, none⟩ = some (.int .i64 E) ∧ Below W.heap.size W w')
        (first | exact E0.out _ (by assumption))
        (first
          | (go_at_call_of 76 (Value.int .i64 A); refine (HC1.out _ (hbW.trans (Below.mono (by assumption) hbW.size))).mono ?_; rintro e w5 ⟨v1, rfl, hown1, hb5⟩; have hB5 : Below W.heap.size W w5 := hB00.trans (hb5.mono (by simp)))
          | (go_at_call_of 76 (Value.int .i64 C); refine (HC2.out _ (hbW.trans (Below.mono (by assumption) hbW.size))).mono ?_; rintro e w6 ⟨v2, rfl, hown2, hb6⟩; have hB6 : Below W.heap.size W w6 := hB5.trans (hb6.mono hB5.size)))
      go_wp2_with fail
      go_ret2
      exact ⟨v1, v2, X', Y', rfl, (hown1.below hb6).sl, hown2.sl, q1, q2, q7, q6, Q5.out, hbW.trans (hB6.mono hbW.size)⟩

end Go.Proofs.Ytlbjaimgoiimgaa

namespace Go.Proofs.Ytlbjaimgoiimgaa
open Go.RowKit

theorem Sl.drewN {w : World} {B : Nat} {v : Value} {l : List Int} (h : Sl w B v l) (n : Nat) : Sl (w.drewN n) B v l := h
theorem below_drewN {B : Nat} {w w' : World} (h : Below B w w') (n : Nat) : Below B w (w'.drewN n) := ⟨h.os, h.tape, h.output, h.size, h.block⟩

set_option maxRecDepth 100000 in
set_option maxHeartbeats 2000000 in
theorem common_any (X Y : Int) (Aa Ab : Option Addr) (ca cb : Nat) (w : World) (hIa : IntsAt w.heap.size w Aa (D X)) (hIb : IntsAt w.heap.size w Ab (D Y)) (hca : (D X).length ≤ ca) (hcb : (D Y).length ≤ cb) (hcm : ca ≤ 9223372036854775807) (hcm2 : cb ≤ 9223372036854775807) (hX : 0 ≤ X) (hY : 0 ≤ Y) (hla : (D X).length ≤ 150) (hlb : (D Y).length ≤ 150) :
    Calls Try.prog 49 #[.slice Aa (D X).length ca, .slice Ab (D Y).length cb] w fun e w' => ∃ v, e = .returned v ∧ OwnI w' w.heap.size v (D (Int.gcd X Y)) ∧ Below w.heap.size w w' := by
  have hord := order_any X Y Aa Ab ca cb w w.heap.size hIa hIb hX hY (by omega) (by omega)
  have hsa : Sl w w.heap.size (.slice Aa (D X).length ca) (D X) := ⟨Aa, ca, rfl, hca, hcm, hIa⟩
  have hsb : Sl w w.heap.size (.slice Ab (D Y).length cb) (D Y) := ⟨Ab, cb, rfl, hcb, hcm2, hIb⟩
  have hxm : X < pw 150 := (D_len_le hX).1 hla
  have hym : Y < pw 150 := (D_len_le hY).1 hlb
  obtain ⟨n, hn⟩ : ∃ n, (D X).length = n := ⟨_, rfl⟩
  obtain ⟨nb, hnb⟩ : ∃ n, (D Y).length = n := ⟨_, rfl⟩
  rw [hn] at hord hsa ⊢
  rw [hnb] at hord hsb ⊢
  obtain ⟨G, hG⟩ : ∃ G, Int.gcd X Y = G := ⟨_, rfl⟩
  rw [hG]
  have HSA := Lib.hid hsa; clear hsa
  have HSB := Lib.hid hsb; clear hsb
  have HXM := Lib.hid hxm; clear hxm
  have HYM := Lib.hid hym; clear hym
  have HG := Lib.hid hG; clear hG
  clear hn hnb hIa hIb hca hcb hla hlb
  by_cases hlt : X < Y
  · have hcmp : Lib.compareInt X Y = -1 := by unfold Lib.compareInt; rw [if_pos hlt]
    rw [hcmp] at hord
    have HO := Lib.hid hord; clear hord hcmp
    go_enter Try.func49, Try.ntmps49
    go_wp2_with fail
    refine HO.out.mono ?_
    rintro e w1 ⟨rfl, q, rfl⟩
    go_wp2_with fail
    go_loopg [0, 1] (X).toNat (fun g va vb wr => ∃ X' Y' : Int, g = Y'.toNat ∧ Sl wr wr.heap.size va (D X') ∧ Sl wr wr.heap.size vb (D Y') ∧ 0 ≤ Y' ∧ Y' ≤ X' ∧ Hid (X' < pw 150) ∧ Hid (Int.gcd X' Y' = G) ∧ Below w.heap.size w wr)
    case atStart => exact ⟨Y, X, rfl, HSB.out.drewN _, HSA.out.drewN _, hX, by omega, HYM, Lib.hid (by rw [Int.gcd_comm]; exact HG.out), below_drewN (Below.refl _ _) _⟩
    case round =>
      obtain ⟨X', Y', hg, ⟨A1, c1, rfl, hc1, hm1, hI1⟩, ⟨A2, c2, rfl, hc2, hm2, hI2⟩, h0, h1, hxm, hgc, hbw⟩ := hrel
      have hs := hbw.size
      have hlx : (D X').length ≤ 150 := (D_len_le (by omega)).2 hxm.out
      have hly : (D Y').length ≤ 150 := (D_len_le h0).2 (by have := hxm.out; omega)
      by_cases h3 : 2 < (D Y').length
      · have hcl := closer_any X' Y' A1 A2 c1 c2 wr hI1 hI2 hc1 hc2 hm2 h0 h1 (by omega) hlx
        obtain ⟨n1, hn1⟩ : ∃ n, (D X').length = n := ⟨_, rfl⟩
        obtain ⟨n2, hn2⟩ : ∃ n, (D Y').length = n := ⟨_, rfl⟩
        rw [hn1] at hcl ⊢
        rw [hn2] at hcl h3 ⊢
        have HCL := Lib.hid hcl; clear hcl
        clear hn1 hn2 hc1 hc2 hlx hly hI1 hI2
        subst hg
        go_wp2_with fail
        refine HCL.out.mono ?_
        rintro e w5 ⟨v1, v2, X2, Y2, rfl, hv1, hv2, g1, g2, g3, g4, g5, hb5⟩
        have G5 := Lib.hid g5; clear g5
        go_wp2_with fail
        go_roundg Y2.toNat
        case measure => omega
        case rel => exact ⟨X2, Y2, rfl, hv1, hv2, g1, g2, Lib.hid (by have := hxm.out; omega), Lib.hid (by rw [G5.out, hgc.out]), hbw.trans (hb5.mono hs)⟩
      · by_cases h4 : (D Y').length = 0
        · have hy0 : Y' = 0 := by
            rcases Int.lt_or_le 0 Y' with h | h
            · have := D_len_pos h; omega
            · omega
          have hcl := clone_any (D X') A1 c1 wr hI1 (by omega)
          have hG0 : (G : Int) = X' := by rw [← hgc.out, hy0, Int.gcd_zero_right]; omega
          rw [h4] at h3 ⊢
          obtain ⟨n1, hn1⟩ : ∃ n, (D X').length = n := ⟨_, rfl⟩
          rw [hn1] at hcl ⊢
          have HCL := Lib.hid hcl; clear hcl
          have HG0 := Lib.hid hG0; clear hG0 hy0
          clear hn1 hc1 hc2 hlx hly hI1 hI2 h4
          go_wp2_with fail
          refine HCL.out.mono ?_
          rintro e w5 ⟨v1, rfl, hv1, hb5⟩
          go_wp2_with fail
          go_ret
          exact ⟨v1, rfl, by rw [HG0.out]; exact hv1.mono hs, hbw.trans (hb5.mono hs)⟩
        · have hy1 : 1 ≤ Y' := by
            rcases Int.lt_or_le 0 Y' with h | h
            · omega
            · rw [D_np h] at h4; simp at h4
          have hy2 : Y' < 1099511627776 := by
            have := (D_len_le h0 (k := 2)).1 (by omega)
            rw [show pw 2 = 1099511627776 by decide] at this
            exact this
          have hj := join_any A2 c2 (D Y') wr hI2 (Dig_D _) (by omega) (by rw [nv_D h0]; omega)
          rw [nv_D h0] at hj
          have hds := fun (w1 : World) (hb : Below wr.heap.size wr w1) => divideShort_any (D X') A1 c1 Y' w1 ((hI1.below hb).more hb.size) (Dig_D _) (by omega) hy1 (by omega)
          rw [nv_D (by omega)] at hds
          have hm0 := Int.emod_nonneg X' (b := Y') (by omega)
          have hm1 := Int.emod_lt_of_pos X' (b := Y') (by omega)
          have hgm : Int.gcd Y' (X' % Y') = G := by rw [← hgc.out, Int.emod_def, Int.mul_comm, Int.gcd_sub_mul_right_right, Int.gcd_comm]
          obtain ⟨r, hr⟩ : ∃ r, X' % Y' = r := ⟨_, rfl⟩
          rw [hr] at hm0 hm1 hds hgm
          obtain ⟨n1, hn1⟩ : ∃ n, (D X').length = n := ⟨_, rfl⟩
          obtain ⟨n2, hn2⟩ : ∃ n, (D Y').length = n := ⟨_, rfl⟩
          rw [hn1] at hds ⊢
          rw [hn2] at hj h3 h4 ⊢
          have hn2' : ((n2 : Int) == 0) = false := by simp; omega
          have HJ := Lib.hid hj; clear hj
          have HDS := Lib.hid hds; clear hds
          have HGM := Lib.hid hgm; clear hgm
          clear hn1 hn2 hr hc1 hc2 hlx hly hI1 hI2 hg
          go_wp2_with fail
          refine HJ.out.mono ?_
          rintro e w5 ⟨rfl, hb5⟩
          go_wp2_with fail
          refine (HDS.out w5 hb5).mono ?_
          rintro e w6 ⟨v6, rfl, hown6, hb6⟩
          have hb06 := hbw.trans ((hb5.trans (hb6.mono hb5.size)).mono hs)
          clear hown6 HDS HJ hbw hb5 hb6 hxm hgc
          go_wp2_with fail
          go_loopg [5, 7] r.toNat (fun g xv yv wr => ∃ x y : Int, g = y.toNat ∧ xv = .int .i64 x ∧ yv = .int .i64 y ∧ 1 ≤ x ∧ x < 1099511627776 ∧ 0 ≤ y ∧ y < 1099511627776 ∧ Hid (Int.gcd x y = G) ∧ Below w.heap.size w wr)
          case atStart => exact ⟨Y', r, rfl, rfl, rfl, hy1, hy2, hm0, by omega, HGM, hb06⟩
          case round =>
            obtain ⟨x, y, hg, rfl, rfl, x0, x1, y0, y1, hgc, hbr⟩ := hrel
            subst hg
            by_cases hyp : 0 < y
            · have hz : (y == 0) = false := by simp; omega
              have hm0 := Int.emod_nonneg x (b := y) (by omega)
              have hm1 := Int.emod_lt_of_pos x (b := y) (by omega)
              have hgm : Int.gcd y (x % y) = G := by rw [← hgc.out, Int.emod_def, Int.mul_comm, Int.gcd_sub_mul_right_right, Int.gcd_comm]
              have hm2 : x.tmod y = x % y := Int.tmod_eq_emod_of_nonneg (by omega)
              have HGM2 := Lib.hid hgm; clear hgm
              go_wp2_with fail
              go_quiet (fail)
              go_wp2_with fail
              go_roundg (x % y).toNat
              case measure => omega
              case rel => exact ⟨y, x % y, rfl, rfl, by first | rfl | rw [hm2], by omega, y1, hm0, by omega, HGM2, below_drewN hbr _⟩
            · have : y = 0 := by omega
              subst this
              have hG0 : (G : Int) = x := by rw [← hgc.out, Int.gcd_zero_right]; omega
              have HG0 := Lib.hid hG0; clear hG0
              have hs2 := hbr.size
              go_wp2_with fail
              refine (split_any x _ (by omega) (by omega)).mono ?_
              rintro e w7 ⟨v7, rfl, hown7, hb7⟩
              go_wp2_with fail
              go_ret
              exact ⟨v7, rfl, by rw [HG0.out]; exact hown7.mono hs2, hbr.trans (hb7.mono hs2)⟩
  · have hcmp : 0 ≤ Lib.compareInt X Y := by unfold Lib.compareInt; split <;> (try split) <;> omega
    obtain ⟨z, hz⟩ : ∃ z, Lib.compareInt X Y = z := ⟨_, rfl⟩
    rw [hz] at hord hcmp
    have HO := Lib.hid hord; clear hord hz
    go_enter Try.func49, Try.ntmps49
    go_wp2_with fail
    refine HO.out.mono ?_
    rintro e w1 ⟨rfl, q, rfl⟩
    go_wp2_with fail
    go_loopg [0, 1] (Y).toNat (fun g va vb wr => ∃ X' Y' : Int, g = Y'.toNat ∧ Sl wr wr.heap.size va (D X') ∧ Sl wr wr.heap.size vb (D Y') ∧ 0 ≤ Y' ∧ Y' ≤ X' ∧ Hid (X' < pw 150) ∧ Hid (Int.gcd X' Y' = G) ∧ Below w.heap.size w wr)
    case atStart => exact ⟨X, Y, rfl, HSA.out.drewN _, HSB.out.drewN _, hY, by omega, HXM, HG, below_drewN (Below.refl _ _) _⟩
    case round =>
      obtain ⟨X', Y', hg, ⟨A1, c1, rfl, hc1, hm1, hI1⟩, ⟨A2, c2, rfl, hc2, hm2, hI2⟩, h0, h1, hxm, hgc, hbw⟩ := hrel
      have hs := hbw.size
      have hlx : (D X').length ≤ 150 := (D_len_le (by omega)).2 hxm.out
      have hly : (D Y').length ≤ 150 := (D_len_le h0).2 (by have := hxm.out; omega)
      by_cases h3 : 2 < (D Y').length
      · have hcl := closer_any X' Y' A1 A2 c1 c2 wr hI1 hI2 hc1 hc2 hm2 h0 h1 (by omega) hlx
        obtain ⟨n1, hn1⟩ : ∃ n, (D X').length = n := ⟨_, rfl⟩
        obtain ⟨n2, hn2⟩ : ∃ n, (D Y').length = n := ⟨_, rfl⟩
        rw [hn1] at hcl ⊢
        rw [hn2] at hcl h3 ⊢
        have HCL := Lib.hid hcl; clear hcl
        clear hn1 hn2 hc1 hc2 hlx hly hI1 hI2
        subst hg
        go_wp2_with fail
        refine HCL.out.mono ?_
        rintro e w5 ⟨v1, v2, X2, Y2, rfl, hv1, hv2, g1, g2, g3, g4, g5, hb5⟩
        have G5 := Lib.hid g5; clear g5
        go_wp2_with fail
        go_roundg Y2.toNat
        case measure => omega
        case rel => exact ⟨X2, Y2, rfl, hv1, hv2, g1, g2, Lib.hid (by have := hxm.out; omega), Lib.hid (by rw [G5.out, hgc.out]), hbw.trans (hb5.mono hs)⟩
      · by_cases h4 : (D Y').length = 0
        · have hy0 : Y' = 0 := by
            rcases Int.lt_or_le 0 Y' with h | h
            · have := D_len_pos h; omega
            · omega
          have hcl := clone_any (D X') A1 c1 wr hI1 (by omega)
          have hG0 : (G : Int) = X' := by rw [← hgc.out, hy0, Int.gcd_zero_right]; omega
          rw [h4] at h3 ⊢
          obtain ⟨n1, hn1⟩ : ∃ n, (D X').length = n := ⟨_, rfl⟩
          rw [hn1] at hcl ⊢
          have HCL := Lib.hid hcl; clear hcl
          have HG0 := Lib.hid hG0; clear hG0 hy0
          clear hn1 hc1 hc2 hlx hly hI1 hI2 h4
          go_wp2_with fail
          refine HCL.out.mono ?_
          rintro e w5 ⟨v1, rfl, hv1, hb5⟩
          go_wp2_with fail
          go_ret
          exact ⟨v1, rfl, by rw [HG0.out]; exact hv1.mono hs, hbw.trans (hb5.mono hs)⟩
        · have hy1 : 1 ≤ Y' := by
            rcases Int.lt_or_le 0 Y' with h | h
            · omega
            · rw [D_np h] at h4; simp at h4
          have hy2 : Y' < 1099511627776 := by
            have := (D_len_le h0 (k := 2)).1 (by omega)
            rw [show pw 2 = 1099511627776 by decide] at this
            exact this
          have hj := join_any A2 c2 (D Y') wr hI2 (Dig_D _) (by omega) (by rw [nv_D h0]; omega)
          rw [nv_D h0] at hj
          have hds := fun (w1 : World) (hb : Below wr.heap.size wr w1) => divideShort_any (D X') A1 c1 Y' w1 ((hI1.below hb).more hb.size) (Dig_D _) (by omega) hy1 (by omega)
          rw [nv_D (by omega)] at hds
          have hm0 := Int.emod_nonneg X' (b := Y') (by omega)
          have hm1 := Int.emod_lt_of_pos X' (b := Y') (by omega)
          have hgm : Int.gcd Y' (X' % Y') = G := by rw [← hgc.out, Int.emod_def, Int.mul_comm, Int.gcd_sub_mul_right_right, Int.gcd_comm]
          obtain ⟨r, hr⟩ : ∃ r, X' % Y' = r := ⟨_, rfl⟩
          rw [hr] at hm0 hm1 hds hgm
          obtain ⟨n1, hn1⟩ : ∃ n, (D X').length = n := ⟨_, rfl⟩
          obtain ⟨n2, hn2⟩ : ∃ n, (D Y').length = n := ⟨_, rfl⟩
          rw [hn1] at hds ⊢
          rw [hn2] at hj h3 h4 ⊢
          have hn2' : ((n2 : Int) == 0) = false := by simp; omega
          have HJ := Lib.hid hj; clear hj
          have HDS := Lib.hid hds; clear hds
          have HGM := Lib.hid hgm; clear hgm
          clear hn1 hn2 hr hc1 hc2 hlx hly hI1 hI2 hg
          go_wp2_with fail
          refine HJ.out.mono ?_
          rintro e w5 ⟨rfl, hb5⟩
          go_wp2_with fail
          refine (HDS.out w5 hb5).mono ?_
          rintro e w6 ⟨v6, rfl, hown6, hb6⟩
          have hb06 := hbw.trans ((hb5.trans (hb6.mono hb5.size)).mono hs)
          clear hown6 HDS HJ hbw hb5 hb6 hxm hgc
          go_wp2_with fail
          go_loopg [5, 7] r.toNat (fun g xv yv wr => ∃ x y : Int, g = y.toNat ∧ xv = .int .i64 x ∧ yv = .int .i64 y ∧ 1 ≤ x ∧ x < 1099511627776 ∧ 0 ≤ y ∧ y < 1099511627776 ∧ Hid (Int.gcd x y = G) ∧ Below w.heap.size w wr)
          case atStart => exact ⟨Y', r, rfl, rfl, rfl, hy1, hy2, hm0, by omega, HGM, hb06⟩
          case round =>
            obtain ⟨x, y, hg, rfl, rfl, x0, x1, y0, y1, hgc, hbr⟩ := hrel
            subst hg
            by_cases hyp : 0 < y
            · have hz : (y == 0) = false := by simp; omega
              have hm0 := Int.emod_nonneg x (b := y) (by omega)
              have hm1 := Int.emod_lt_of_pos x (b := y) (by omega)
              have hgm : Int.gcd y (x % y) = G := by rw [← hgc.out, Int.emod_def, Int.mul_comm, Int.gcd_sub_mul_right_right, Int.gcd_comm]
              have hm2 : x.tmod y = x % y := Int.tmod_eq_emod_of_nonneg (by omega)
              have HGM2 := Lib.hid hgm; clear hgm
              go_wp2_with fail
              go_quiet (fail)
              go_wp2_with fail
              go_roundg (x % y).toNat
              case measure => omega
              case rel => exact ⟨y, x % y, rfl, rfl, by first | rfl | rw [hm2], by omega, y1, hm0, by omega, HGM2, below_drewN hbr _⟩
            · have : y = 0 := by omega
              subst this
              have hG0 : (G : Int) = x := by rw [← hgc.out, Int.gcd_zero_right]; omega
              have HG0 := Lib.hid hG0; clear hG0
              have hs2 := hbr.size
              go_wp2_with fail
              refine (split_any x _ (by omega) (by omega)).mono ?_
              rintro e w7 ⟨v7, rfl, hown7, hb7⟩
              go_wp2_with fail
              go_ret
              exact ⟨v7, rfl, by rw [HG0.out]; exact hown7.mono hs2, hbr.trans (hb7.mono hs2)⟩

end Go.Proofs.Ytlbjaimgoiimgaa

namespace Go.Proofs.Ytlbjaimgoiimgaa
open Go.RowKit

def sgn (z : Int) : Int := if z < 0 then -1 else if z = 0 then 0 else 1
def ab (z : Int) : Int := z.natAbs
theorem ab_nonneg (z : Int) : 0 ≤ ab z := by unfold ab; omega
theorem sgn_ab (z : Int) : sgn z * ab z = z := by
  unfold sgn ab; split
  · omega
  · split <;> omega
theorem sgn_neg (z : Int) : sgn (-z) = -sgn z := by unfold sgn; split <;> split <;> (try split) <;> (try split) <;> omega
theorem ab_neg (z : Int) : ab (-z) = ab z := by unfold ab; omega
theorem sgn_bd (z : Int) : -1 ≤ sgn z ∧ sgn z ≤ 1 := by unfold sgn; split <;> (try split) <;> omega
theorem sgn_zero : sgn 0 = 0 := rfl
theorem ab_zero : ab 0 = 0 := rfl
theorem sgn_pos {z : Int} (h : 0 < z) : sgn z = 1 := by unfold sgn; rw [if_neg (by omega), if_neg (by omega)]
theorem sgn_of_neg {z : Int} (h : z < 0) : sgn z = -1 := by unfold sgn; rw [if_pos h]

/-- A sign and digits that are right. -/
def RightP (s : Int) (l : List Int) : Prop := ∃ z, s = sgn z ∧ l = D (ab z) ∧ ab z < pw 60

theorem RightP.nil : RightP 0 [] := ⟨0, rfl, by rw [ab_zero, D_zero], by rw [ab_zero]; exact pw_pos 60⟩
theorem RightP.mk {s : Int} {l : List Int} (hs : s = 1 ∨ s = -1) (hn : Nrm l) (hl : 0 < l.length) (h6 : l.length ≤ 60) : RightP s l := by
  have hp := hn.pos hl
  have hlt := hn.1.nv_lt
  have h60 := pw_le h6
  rcases hs with rfl | rfl
  · refine ⟨nv l, (sgn_pos hp).symm, ?_, ?_⟩
    · have : ab (nv l) = nv l := by unfold ab; omega
      rw [this, hn.eq_D]
    · unfold ab; omega
  · refine ⟨-nv l, (sgn_of_neg (by omega)).symm, ?_, ?_⟩
    · have : ab (-nv l) = nv l := by unfold ab; omega
      rw [this, hn.eq_D]
    · unfold ab; omega

set_option maxRecDepth 100000 in
set_option maxHeartbeats 1000000 in
theorem right_zero (s : Int) (A : Option Addr) (c : Nat) (w : World) : 
    Calls Try.prog 47 #[.agg #[.int .i64 s, .slice A 0 c]] w fun e w' => e = .returned (.bool (s == 0)) ∧ Below w.heap.size w w' := by
  go_enter Try.func47, Try.ntmps47
  go_wp2_with fail
  go_ret
  exact ⟨rfl, (Below.refl _ _).alloc (Nat.le_refl _) _⟩

set_option maxRecDepth 100000 in
set_option maxHeartbeats 2000000 in
theorem right_pos (s : Int) (l : List Int) (A : Option Addr) (c : Nat) (w : World) (hI : IntsAt w.heap.size w A l) (hp : 0 < l.length) (hl : l.length ≤ 9223372036854775807) (res : Bool) (hres : res = true ↔ RightP s l) :
    Calls Try.prog 47 #[.agg #[.int .i64 s, .slice A l.length c]] w fun e w' => e = .returned (.bool res) ∧ Below w.heap.size w w' := by
  obtain ⟨n, hn⟩ : ∃ n, l.length = n := ⟨_, rfl⟩
  have hnn : l.length ≤ n ∧ n ≤ l.length := by omega
  obtain ⟨b, off, hA, hbB, hc⟩ := hI (n - 1) (by omega)
  subst hA
  have hc1 : (w.alloc (.cells #[.int .i64 s, .slice (some ⟨b, off, none⟩) n c] 38)).cell? ⟨b, off + (n - 1), none⟩ = some (.int .i64 (l.getD (n - 1) 0)) := (World.cell?_alloc_lt w _ _ hbB).trans hc
  obtain ⟨t, ht⟩ : ∃ t, l.getD (n - 1) 0 = t := ⟨_, rfl⟩
  rw [ht] at hc1
  have hn0 : ((n : Int) == 0) = false := by simp; omega
  have HT := Lib.hid ht; clear ht hc
  have HR := Lib.hid hres; clear hres
  rw [hn] at hl ⊢
  have HN := Lib.hid hn; clear hn
  have hno : (s = 1 ∨ s = -1 → n ≤ 60 → t ≠ 0 → ¬ Dig l) → res = false := fun h => by
    rcases hb : res with _ | _
    · rfl
    · exfalso
      obtain ⟨z, h1, h2, h3⟩ := HR.out.1 hb
      have hzn := Nrm_D (ab z)
      rw [← h2] at hzn
      have hz0 : ab z ≠ 0 := fun h => by rw [h, D_zero] at h2; rw [h2] at hp; cases hp
      refine h ?_ ?_ ?_ hzn.1
      · rw [h1]; unfold sgn; unfold ab at hz0; split
        · exact .inr rfl
        · rw [if_neg (by omega)]; exact .inl rfl
      · rw [← HN.out, h2]; exact (D_len_le (ab_nonneg z)).2 h3
      · rw [← HT.out]
        have := hzn.2 hp
        rw [HN.out] at this
        exact this
  have hyes : (s = 1 ∨ s = -1) → n ≤ 60 → t ≠ 0 → Dig l → res = true := fun h1 h2 h3 h4 => HR.out.2 (RightP.mk h1 ⟨h4, fun _ => by rw [HN.out, HT.out]; exact h3⟩ hp (by omega))
  have HNO := Lib.hid hno; clear hno
  have HYES := Lib.hid hyes; clear hyes
  have hbx : Below w.heap.size w (w.alloc (.cells #[.int .i64 s, .slice (some ⟨b, off, none⟩) n c] 38)) := (Below.refl _ _).alloc (Nat.le_refl _) _
  by_cases hs : s = 1 ∨ s = -1
  · by_cases h60 : n ≤ 60
    · have hd6 : decide (60 < (n : Int)) = false := by simp; omega
      by_cases ht0 : t = 0
      · have := HNO.out (fun _ _ h => absurd ht0 h)
        subst this
        subst ht0
        rcases hs with rfl | rfl
        all_goals
          go_enter Try.func47, Try.ntmps47
          go_wp2_with fail
          go_ret
          exact ⟨rfl, hbx⟩
      · have ht1 : (t == 0) = false := by simpa using ht0
        have HS := Lib.hid hs
        rcases hs with rfl | rfl
        all_goals
          go_enter Try.func47, Try.ntmps47
          go_wp2_with fail
          go_loop [38] (fun i => ∃ k : Nat, k ≤ n ∧ i = .int .i64 k ∧ Hid (Dig (l.take k))) (fun i => n - (intOf i).toNat)
          case atStart => exact ⟨0, Nat.zero_le _, rfl, Lib.hid Dig.nil⟩
          case round =>
            obtain ⟨k, hk, rfl, hdg⟩ := hrel
            by_cases hlt : k < n
            · obtain ⟨b', off', hA', hbB', hck⟩ := hI k (by omega)
              injection hA' with hA'
              injection hA' with hA1 hA2
              subst hA1; subst hA2
              have hck' := (hbx.cell (p := ⟨b, off + k, none⟩) hbB).trans hck
              have hnd : ¬ (0 ≤ l.getD k 0 ∧ l.getD k 0 < 1048576) → res = false := fun h => HNO.out (fun _ _ _ hD => h (hD.getD (by omega)))
              have hts := take_snoc (l := l) (k := k) (by omega)
              obtain ⟨d, hdd⟩ : ∃ d, l.getD k 0 = d := ⟨_, rfl⟩
              rw [hdd] at hck' hnd hts
              clear hdd hck
              have HND := Lib.hid hnd; clear hnd
              have HTS := Lib.hid hts; clear hts
              by_cases hd0 : d < 0
              · have := HND.out (by omega)
                subst this
                go_wp2_with fail
                go_ret
                exact ⟨rfl, hbx⟩
              · by_cases hd1 : 1048575 < d
                · have := HND.out (by omega)
                  subst this
                  go_wp2_with fail
                  go_ret
                  exact ⟨rfl, hbx⟩
                · go_wp2_with fail
                  go_round
                  case rel => exact ⟨k + 1, by omega, by go_num, Lib.hid (by rw [HTS.out]; exact hdg.out.snoc (by omega) (by omega))⟩
                  case measure => simp [intOf]; omega
            · have : k = n := by omega
              subst this
              have hdg' := hdg.out
              rw [List.take_of_length_le (by omega)] at hdg'
              have := HYES.out HS.out h60 ht0 hdg'
              subst this
              go_wp2_with fail
              go_ret
              exact ⟨rfl, hbx⟩
    · have := HNO.out (fun _ h _ => absurd h h60)
      subst this
      rcases hs with rfl | rfl
      all_goals
        go_enter Try.func47, Try.ntmps47
        go_wp2_with fail
        go_ret
        exact ⟨rfl, hbx⟩
  · have := HNO.out (fun h _ _ => absurd h hs)
    subst this
    have h1 : (s != 1) = true := by simp; omega
    have h2 : (s != -1) = true := by simp; omega
    clear hs
    go_enter Try.func47, Try.ntmps47
    go_wp2_with fail
    go_ret
    exact ⟨rfl, hbx⟩

/-- Right, at whatever came in. -/
theorem right_any (s : Int) (l : List Int) (A : Option Addr) (c : Nat) (w : World) (hI : IntsAt w.heap.size w A l) (hl : l.length ≤ 9223372036854775807) (res : Bool) (hres : res = true ↔ RightP s l) :
    Calls Try.prog 47 #[.agg #[.int .i64 s, .slice A l.length c]] w fun e w' => e = .returned (.bool res) ∧ Below w.heap.size w w' := by
  rcases Nat.eq_zero_or_pos l.length with h | h
  · have hn : l = [] := List.eq_nil_of_length_eq_zero h
    subst hn
    have e : (s == 0) = res := by
      rw [Bool.eq_iff_iff, hres]
      constructor
      · intro h; simp at h; subst h; exact RightP.nil
      · rintro ⟨z, h1, h2, h3⟩
        have : ab z = 0 := by
          rcases Int.lt_or_le 0 (ab z) with h | h
          · have := D_len_pos h; rw [← h2] at this; cases this
          · have := ab_nonneg z; omega
        have hz : z = 0 := by unfold ab at this; omega
        subst hz
        rw [h1]; rfl
    rw [← e]
    exact right_zero s A c w
  · exact right_pos s l A c w hI h hl res hres

end Go.Proofs.Ytlbjaimgoiimgaa

namespace Go.Proofs.Ytlbjaimgoiimgaa
open Go.RowKit

/-- A big integer that reads as z. -/
def BV (w : World) (B : Nat) (v : Value) (z : Int) : Prop := ∃ A c, v = .agg #[.int .i64 (sgn z), .slice A (D (ab z)).length c] ∧ (D (ab z)).length ≤ c ∧ c ≤ 9223372036854775807 ∧ IntsAt B w A (D (ab z))
section
variable {w w' : World} {B B' : Nat} {v : Value} {z : Int}
theorem BV.below (h : BV w B v z) (hb : Below B w w') : BV w' B v z := by
  obtain ⟨A, c, e, h1, h2, h3⟩ := h
  exact ⟨A, c, e, h1, h2, h3.below hb⟩
theorem BV.more (h : BV w B v z) (hb : B ≤ B') : BV w B' v z := by
  obtain ⟨A, c, e, h1, h2, h3⟩ := h
  exact ⟨A, c, e, h1, h2, h3.more hb⟩
theorem BV.later (h : BV w w.heap.size v z) (hb : Below w.heap.size w w') : BV w' w'.heap.size v z := (h.below hb).more hb.size
theorem BV.drewN (h : BV w B v z) (n : Nat) : BV (w.drewN n) B v z := h
theorem BV.zero (w : World) (B : Nat) : BV w B (.agg #[.int .i64 0, .slice none 0 0]) 0 := ⟨none, 0, by rw [sgn_zero, ab_zero, D_zero]; rfl, by rw [ab_zero, D_zero]; exact Nat.le_refl _, by omega, by rw [ab_zero, D_zero]; exact IntsAt.nil _ _ _⟩
end

theorem Blk.set2 {w : World} {g : Nat} {t : TypeId} {a0 a1 : Value} (h : Blk w g t #[a0, a1]) (b0 b1 : Value) : Blk ((w.setCell ⟨g, 0, none⟩ b0).setCell ⟨g, 1, none⟩ b1) g t #[b0, b1] := by
  simpa using (h.set_ 0 b0).set_ 1 b1

/-- What number makes of a slice: zero, or a sign and just this slice. -/
def Rz (z : Int) (A : Option Addr) (c : Nat) (r : Value) : Prop := (r = .agg #[.int .i64 0, .slice none 0 0] ∧ z = 0) ∨ r = .agg #[.int .i64 (sgn z), .slice A (D (ab z)).length c]
theorem Rz.form {z : Int} {A : Option Addr} {c : Nat} {r : Value} (h : Rz z A c r) : ∃ s' A' n' c', r = .agg #[.int .i64 s', .slice A' n' c'] := by
  rcases h with ⟨rfl, _⟩ | rfl
  · exact ⟨_, _, _, _, rfl⟩
  · exact ⟨_, _, _, _, rfl⟩
theorem Rz.bv {z : Int} {A : Option Addr} {c B : Nat} {r : Value} {w : World} (h : Rz z A c r) (hc : (D (ab z)).length ≤ c) (hcm : c ≤ 9223372036854775807) (hI : IntsAt B w A (D (ab z))) : BV w B r z := by
  rcases h with ⟨rfl, rfl⟩ | rfl
  · exact BV.zero _ _
  · exact ⟨A, c, rfl, hc, hcm, hI⟩

/-- A big integer that reads as z, whose digits the call owns from block B on. -/
def BO (w : World) (B : Nat) (r : Value) (z : Int) : Prop := ∃ v, r = .agg #[.int .i64 (sgn z), v] ∧ OwnI w B v (D (ab z))
theorem BO.zero (w : World) (B : Nat) : BO w B (.agg #[.int .i64 0, .slice none 0 0]) 0 := ⟨.slice none 0 0, by rw [sgn_zero], by rw [ab_zero, D_zero]; exact OwnI.nil _ _⟩
theorem BO.form {w : World} {B : Nat} {r : Value} {z : Int} (h : BO w B r z) : ∃ s' A' n' c', r = .agg #[.int .i64 s', .slice A' n' c'] := by
  obtain ⟨v, rfl, ho⟩ := h
  obtain ⟨A, c, rfl⟩ := ho.form
  exact ⟨_, _, _, _, rfl⟩
theorem BO.below {w w' : World} {B : Nat} {r : Value} {z : Int} (h : BO w B r z) (hb : Below w.heap.size w w') : BO w' B r z := by
  obtain ⟨v, rfl, ho⟩ := h
  exact ⟨v, rfl, ho.below hb⟩
theorem BO.mono {w : World} {B B' : Nat} {r : Value} {z : Int} (h : BO w B r z) (hb : B' ≤ B) : BO w B' r z := by
  obtain ⟨v, rfl, ho⟩ := h
  exact ⟨v, rfl, ho.mono hb⟩
theorem BO.bv {w : World} {B : Nat} {r : Value} {z : Int} (h : BO w B r z) : BV w w.heap.size r z := by
  obtain ⟨v, rfl, ho⟩ := h
  obtain ⟨A, c, rfl, h1, h2, h3⟩ := ho.at_
  exact ⟨A, c, rfl, h1, h2, h3⟩
theorem Rz.bo {z : Int} {A : Option Addr} {c B : Nat} {r : Value} {w : World} (h : Rz z A c r) (ho : OwnI w B (.slice A (D (ab z)).length c) (D (ab z))) : BO w B r z := by
  rcases h with ⟨rfl, rfl⟩ | rfl
  · exact BO.zero _ _
  · exact ⟨_, rfl, ho⟩

def NumP (z : Int) (A : Option Addr) (c : Nat) (w : World) (e : Ending) (w' : World) : Prop := ∃ r, e = .returned r ∧ Rz z A c r ∧ Below w.heap.size w w'
/-- What a result is where there is room for it, and its error. -/
def fitz (z : Int) : Int := if ab z < pw 60 then z else 0
def fite (z : Int) : Int := if ab z < pw 60 then 0 else 6
def FitP (z : Int) (A : Option Addr) (c : Nat) (w : World) (e : Ending) (w' : World) : Prop := ∃ r, e = .returned (.tuple #[r, .int .i64 (fite z)]) ∧ Rz (fitz z) A c r ∧ Below w.heap.size w w'

theorem Rz.fit {z : Int} {A : Option Addr} {c B : Nat} {r : Value} {w : World} (h : Rz (fitz z) A c r) (hc : (D (ab z)).length ≤ c) (hcm : c ≤ 9223372036854775807) (hI : IntsAt B w A (D (ab z))) : BV w B r (fitz z) := by
  unfold fitz at h ⊢
  split at h
  · rename_i h6
    rw [if_pos h6]; exact h.bv hc hcm hI
  · rename_i h6
    rw [if_neg h6]
    refine h.bv ?_ hcm ?_
    · rw [ab_zero, D_zero]; simp
    · rw [ab_zero, D_zero]; exact IntsAt.nil _ _ _

theorem Rz.fito {z : Int} {A : Option Addr} {c B : Nat} {r : Value} {w : World} (h : Rz (fitz z) A c r) (ho : OwnI w B (.slice A (D (ab z)).length c) (D (ab z))) : BO w B r (fitz z) := by
  unfold fitz at h ⊢
  split at h
  · rename_i h6
    rw [if_pos h6]; exact h.bo ho
  · rename_i h6
    rw [if_neg h6]
    refine h.bo ?_
    rw [ab_zero, D_zero]
    exact OwnI.cut (k := 0) ho rfl (Nat.zero_le _)

theorem ab_of_nil {z : Int} (h : (D (ab z)).length = 0) : z = 0 := by
  rcases Int.lt_or_le 0 (ab z) with h' | h'
  · have := D_len_pos h'; omega
  · unfold ab at h'; omega

set_option maxRecDepth 100000 in
set_option maxHeartbeats 1000000 in
theorem number_any (z s : Int) (A : Option Addr) (c : Nat) (w : World) (hs : z ≠ 0 → s = sgn z) :
    Calls Try.prog 48 #[.int .i64 s, .slice A (D (ab z)).length c] w (NumP z A c w) := by
  have hb : ∀ v, Below w.heap.size w (w.alloc (.cells v 38)) := fun v => (Below.refl _ _).alloc (Nat.le_refl _) _
  have HB := Lib.hid hb; clear hb
  by_cases h0 : (D (ab z)).length = 0
  · have hz := ab_of_nil h0
    subst hz
    rw [h0]
    clear hs h0
    go_enter Try.func48, Try.ntmps48
    go_wp2_with fail
    refine bodyPost_ret (v := .agg #[.int .i64 0, .slice none 0 0]) (by simp [results, Try.results48, go_sem]) rfl ?_
    exact ⟨_, rfl, .inl ⟨rfl, rfl⟩, HB.out _⟩
  · have hz : z ≠ 0 := fun h => h0 (by rw [h, ab_zero, D_zero]; rfl)
    have hsz := hs hz
    have hrz : Rz z A c (.agg #[.int .i64 s, .slice A (D (ab z)).length c]) := .inr (by rw [hsz])
    obtain ⟨n, hn⟩ : ∃ n, (D (ab z)).length = n := ⟨_, rfl⟩
    rw [hn] at h0 hrz ⊢
    have hn0 : ((n : Int) == 0) = false := by simp; omega
    have HRZ := Lib.hid hrz
    clear hn hs hsz hrz hz
    go_enter Try.func48, Try.ntmps48
    go_wp2_with fail
    refine bodyPost_ret (v := .agg #[.int .i64 s, .slice A n c]) (by simp [results, Try.results48, go_sem]) rfl ?_
    exact ⟨_, rfl, HRZ.out, HB.out _⟩

set_option maxRecDepth 100000 in
set_option maxHeartbeats 1000000 in
theorem fitting_any (z s : Int) (A : Option Addr) (c : Nat) (w : World) (hs : z ≠ 0 → s = sgn z) :
    Calls Try.prog 72 #[.int .i64 s, .slice A (D (ab z)).length c] w (FitP z A c w) := by
  have hb : ∀ v, Below w.heap.size w (w.alloc (.cells v 38)) := fun v => (Below.refl _ _).alloc (Nat.le_refl _) _
  have HB := Lib.hid hb; clear hb
  have hnum := fun w' => number_any z s A c w' hs
  by_cases h6 : ab z < pw 60
  · have hl := (D_len_le (ab_nonneg z)).2 h6
    have hz : fitz z = z := if_pos h6
    have he : fite z = 0 := if_pos h6
    unfold FitP
    rw [hz, he]
    obtain ⟨n, hn⟩ : ∃ n, (D (ab z)).length = n := ⟨_, rfl⟩
    rw [hn] at hl hnum ⊢
    have HNUM := Lib.hid hnum; clear hnum
    clear hn hz he hs h6
    go_enter Try.func72, Try.ntmps72
    go_wp2_with fail
    refine (HNUM.out _).mono ?_
    rintro e w1 ⟨r, rfl, hr, hb1⟩
    have HR := Lib.hid hr
    obtain ⟨s', A', n', c', rfl⟩ := hr.form
    clear hr
    have hbk : Blk w1 w.heap.size 38 #[.int .i64 0, .slice none 0 0] := (Blk.new w 38 _).below hb1 (by simp)
    have hc0 : w1.cell? ⟨w.heap.size, 0, none⟩ = some (.int .i64 0) := hbk.cell 0
    have hc1 : w1.cell? ⟨w.heap.size, 1, none⟩ = some (.slice none 0 0) := hbk.cell 1
    have hf0 := hbk.frozen 0
    have hf1 := hbk.frozen 1
    have hb2 : Below w.heap.size w w1 := (HB.out _).trans (hb1.mono (by simp))
    have hbs := hbk.set2 (.int .i64 s') (.slice A' n' c')
    have hd0 := hbs.cell 0
    have hd1 := hbs.cell 1
    simp at hd0 hd1
    have hb3 := (hb2.setCell (p := ⟨w.heap.size, 0, none⟩) (Nat.le_refl _) (.int .i64 s')).setCell (p := ⟨w.heap.size, 1, none⟩) (Nat.le_refl _) (.slice A' n' c')
    go_wp2_with fail
    refine bodyPost_ret (v := .tuple #[.agg #[.int .i64 s', .slice A' n' c'], .int .i64 0]) (by simp [results, Try.results72, go_sem, hd0, hd1]) rfl ?_
    exact ⟨_, rfl, HR.out, hb3⟩
  · have hl := (D_len_lt (ab_nonneg z) (k := 60)).2 (by omega)
    have hz : fitz z = 0 := if_neg h6
    have he : fite z = 6 := if_neg h6
    unfold FitP
    rw [hz, he]
    obtain ⟨n, hn⟩ : ∃ n, (D (ab z)).length = n := ⟨_, rfl⟩
    rw [hn] at hl ⊢
    clear hn hz he hs h6 hnum
    go_enter Try.func72, Try.ntmps72
    go_wp2_with fail
    refine bodyPost_ret (v := .tuple #[.agg #[.int .i64 0, .slice none 0 0], .int .i64 6]) (by simp [results, Try.results72, go_sem]) rfl ?_
    exact ⟨_, rfl, .inl ⟨rfl, rfl⟩, HB.out _⟩

/-- A result that the call owns, behind a store into another block. -/
theorem OwnI.far {w : World} {B g k : Nat} {v : Value} {l : List Int} (h : OwnI w B v l) (hg : g < B) (u : Value) : OwnI (w.setCell ⟨g, k, none⟩ u) B v l :=
  OwnI.grown (row := some g) h (grown_set (World.grownBy.refl _ _) _) (by
    rcases hv : v.ownBlock with _ | j
    · exact .inl rfl
    · refine .inr ?_
      have := (World.ownsRow.lt h j hv).1
      simp; omega)
theorem BO.far2 {w : World} {B g : Nat} {r : Value} {z : Int} (h : BO w B r z) (hg : g < B) (u u' : Value) : BO ((w.setCell ⟨g, 0, none⟩ u).setCell ⟨g, 1, none⟩ u') B r z := by
  obtain ⟨v, rfl, ho⟩ := h
  exact ⟨v, rfl, (ho.far hg u).far hg u'⟩
theorem OwnI.far2 {w : World} {B g : Nat} {v : Value} {l : List Int} (h : OwnI w B v l) (hg : g < B) (u u' : Value) : OwnI ((w.setCell ⟨g, 0, none⟩ u).setCell ⟨g, 1, none⟩ u') B v l := (h.far hg u).far hg u'

def OfP (z : Int) (w : World) (e : Ending) (w' : World) : Prop := ∃ r, e = .returned r ∧ BO w' w.heap.size r z ∧ Below w.heap.size w w'

set_option maxRecDepth 100000 in
set_option maxHeartbeats 1000000 in
theorem of_any (z : Int) (w : World) (h0 : -9223372036854775808 ≤ z) (h1 : z ≤ 9223372036854775807) : Calls Try.prog 35 #[.int .i64 z] w (OfP z w) := by
  have hb : ∀ v, Below w.heap.size w (w.alloc (.cells v 38)) := fun v => (Below.refl _ _).alloc (Nat.le_refl _) _
  have HB := Lib.hid hb; clear hb
  have hsp := fun w' => split_any (ab z) w' (ab_nonneg z) (by unfold ab; omega)
  have HSP := Lib.hid hsp; clear hsp
  by_cases hz : z < 0
  · have hab : ab z = -z := by unfold ab; omega
    have hnum := fun w' A c => number_any z (-1) A c w' (fun _ => (sgn_of_neg hz).symm)
    have HNUM := Lib.hid hnum; clear hnum
    have HAB := Lib.hid hab; clear hab
    go_enter Try.func35, Try.ntmps35
    go_wp2_with fail
    rw [show IntKind.u64.wrap (-IntKind.u64.wrap z) = ab z by rw [HAB.out, IntKind.wrap_u64, IntKind.wrap_u64]; omega]
    refine (HSP.out _).mono ?_
    rintro e w1 ⟨v1, rfl, hown, hb1⟩
    obtain ⟨A1, c1, rfl, hc1, hm1, _⟩ := hown.at_
    have hnm := HNUM.out w1 A1 c1
    have HC1 := Lib.hid hc1; clear hc1
    obtain ⟨n1, hn1⟩ : ∃ n, (D (ab z)).length = n := ⟨_, rfl⟩
    have HN1 := Lib.hid hn1
    rw [hn1] at hnm ⊢
    clear hn1
    have hbk : Blk w1 w.heap.size 38 #[.int .i64 0, .slice none 0 0] := (Blk.new w 38 _).below hb1 (by simp)
    have hb01 : Below w.heap.size w w1 := (HB.out _).trans (hb1.mono (by simp))
    have hs1 := hb1.size
    go_wp2_with fail
    refine hnm.mono ?_
    rintro e w2 ⟨r, rfl, hr, hb2⟩
    have HR := Lib.hid hr
    obtain ⟨s', A', n', c', rfl⟩ := hr.form
    clear hr
    have hbk2 := hbk.below hb2 (by simp at hs1; omega)
    have hc0 : w2.cell? ⟨w.heap.size, 0, none⟩ = some (.int .i64 0) := hbk2.cell 0
    have hc1 : w2.cell? ⟨w.heap.size, 1, none⟩ = some (.slice none 0 0) := hbk2.cell 1
    have hf0 := hbk2.frozen 0
    have hf1 := hbk2.frozen 1
    have hbs := hbk2.set2 (.int .i64 s') (.slice A' n' c')
    have hd0 := hbs.cell 0
    have hd1 := hbs.cell 1
    simp at hd0 hd1
    have hb02 := hb01.trans (hb2.mono hb01.size)
    have hb3 := (hb02.setCell (p := ⟨w.heap.size, 0, none⟩) (Nat.le_refl _) (.int .i64 s')).setCell (p := ⟨w.heap.size, 1, none⟩) (Nat.le_refl _) (.slice A' n' c')
    have hof := (hown.below hb2).far2 (g := w.heap.size) (by simp) (.int .i64 s') (.slice A' n' c')
    go_wp2_with fail
    refine bodyPost_ret (v := .agg #[.int .i64 s', .slice A' n' c']) (by simp [results, Try.results35, go_sem, hd0, hd1]) rfl ?_
    refine ⟨_, rfl, ?_, hb3⟩
    exact HR.out.bo (hof.mono (by simp))
  · have hab : ab z = z := by unfold ab; omega
    have hnum := fun w' A c => number_any z 1 A c w' (fun h => (sgn_pos (by omega)).symm)
    have HNUM := Lib.hid hnum; clear hnum
    have HAB := Lib.hid hab; clear hab
    go_enter Try.func35, Try.ntmps35
    go_wp2_with fail
    have hzz := HSP.out (w.alloc (.cells #[.int .i64 0, .slice none 0 0] 38))
    rw [HAB.out] at hzz
    have HZZ := Lib.hid hzz; clear hzz HSP
    obtain ⟨HSP, _⟩ : (Hid (∀ _ : Unit, Calls Try.prog 51 #[.int .u64 z] (w.alloc (.cells #[.int .i64 0, .slice none 0 0] 38)) fun e w' => ∃ v', e = .returned v' ∧ OwnI w' (w.alloc (.cells #[.int .i64 0, .slice none 0 0] 38)).heap.size v' (D z) ∧ Below (w.alloc (.cells #[.int .i64 0, .slice none 0 0] 38)).heap.size (w.alloc (.cells #[.int .i64 0, .slice none 0 0] 38)) w')) ∧ True := ⟨Lib.hid fun _ => HZZ.out, trivial⟩
    refine (HSP.out ()).mono ?_
    rintro e w1 ⟨v1, rfl, hown, hb1⟩
    obtain ⟨A1, c1, rfl, hc1, hm1, _⟩ := hown.at_
    rw [← HAB.out] at hown hc1 ⊢
    have hnm := HNUM.out w1 A1 c1
    have HC1 := Lib.hid hc1; clear hc1
    obtain ⟨n1, hn1⟩ : ∃ n, (D (ab z)).length = n := ⟨_, rfl⟩
    have HN1 := Lib.hid hn1
    rw [hn1] at hnm ⊢
    clear hn1
    have hbk : Blk w1 w.heap.size 38 #[.int .i64 0, .slice none 0 0] := (Blk.new w 38 _).below hb1 (by simp)
    have hb01 : Below w.heap.size w w1 := (HB.out _).trans (hb1.mono (by simp))
    have hs1 := hb1.size
    go_wp2_with fail
    refine hnm.mono ?_
    rintro e w2 ⟨r, rfl, hr, hb2⟩
    have HR := Lib.hid hr
    obtain ⟨s', A', n', c', rfl⟩ := hr.form
    clear hr
    have hbk2 := hbk.below hb2 (by simp at hs1; omega)
    have hc0 : w2.cell? ⟨w.heap.size, 0, none⟩ = some (.int .i64 0) := hbk2.cell 0
    have hc1 : w2.cell? ⟨w.heap.size, 1, none⟩ = some (.slice none 0 0) := hbk2.cell 1
    have hf0 := hbk2.frozen 0
    have hf1 := hbk2.frozen 1
    have hbs := hbk2.set2 (.int .i64 s') (.slice A' n' c')
    have hd0 := hbs.cell 0
    have hd1 := hbs.cell 1
    simp at hd0 hd1
    have hb02 := hb01.trans (hb2.mono hb01.size)
    have hb3 := (hb02.setCell (p := ⟨w.heap.size, 0, none⟩) (Nat.le_refl _) (.int .i64 s')).setCell (p := ⟨w.heap.size, 1, none⟩) (Nat.le_refl _) (.slice A' n' c')
    have hof := (hown.below hb2).far2 (g := w.heap.size) (by simp) (.int .i64 s') (.slice A' n' c')
    go_wp2_with fail
    refine bodyPost_ret (v := .agg #[.int .i64 s', .slice A' n' c']) (by simp [results, Try.results35, go_sem, hd0, hd1]) rfl ?_
    refine ⟨_, rfl, ?_, hb3⟩
    exact HR.out.bo (hof.mono (by simp))

end Go.Proofs.Ytlbjaimgoiimgaa
