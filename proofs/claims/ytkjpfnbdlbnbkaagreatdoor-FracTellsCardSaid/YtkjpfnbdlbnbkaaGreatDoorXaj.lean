/- What the laws' condition on laid variables gives: the table of Itoa; and a world that meets it. Walks: text. Walks: back to an int. -/
import Derived.Test.YtkjpfnbdlbnbkaaGreatDoorXai
import Derived.ProofKit
import Derived.LaidMore
import Derived.OpenShut
import Derived.Stop.Joined
import Derived.Laws.Concat
import Derived.Test.YtkjpfnbdlbnbkaaGreatDoorXad

namespace Go.Proofs.YtkjpfnbdlbnbkaaGreatDoor
open Go.ChangeShapes Go.WideShapes Go.ChangeAt Go.RowKit

theorem Tryz.own : ownKnob Tryz.prog.godebug = none := by kernel_rfl
theorem Tryz.laidOut : laidOutB Tryz.prog = true := by kernel_rfl
def laid5 : List (String × DataW Unit) := [("math/bits.deBruijn32tab", Rows.laid_math_bits_deBruijn32tab), ("math/bits.deBruijn64tab", Rows.laid_math_bits_deBruijn64tab), ("internal/strconv.uint64pow10", Rows.laid_internal_strconv_uint64pow10), ("strconv.ErrRange", Rows.laid_strconv_ErrRange), ("strconv.ErrSyntax", Rows.laid_strconv_ErrSyntax)]
theorem laid5_row : Rows.bigTellsRow.laid = laid5 := rfl
theorem tab_data : (Rows.laid_internal_strconv_uint64pow10 : DataW Unit) = Lib.tabData .u64 Lib.pow10Tab := rfl
theorem Tryz.gT : Tryz.prog.globalNamed "internal/strconv.uint64pow10" = some 3 := by kernel_rfl
theorem Tryz.gTType : (Tryz.prog.globals[3]?).map (·.type) = some 150 := by kernel_rfl
theorem Tryz.cells150 : Tryz.prog.cellsOf 150 = 20 := by kernel_rfl
theorem Tryz.cells67 : Tryz.prog.cellsOf 67 = 1 := by kernel_rfl

theorem tb_of_laid {W : World} (h : laidMetH Tryz.prog laid5 W) : TB W := by
  rw [MakeChecks.laidMetH_plain _ _ _ (by kernel_rfl)] at h
  obtain ⟨ps, ⟨g0, t0, cs0, f0, p0, q0, hg0, ht0, hv0, hd0, ⟨g1, t1, cs1, f1, p1, q1, hg1, ht1, hv1, hd1, ⟨g2, t2, cs2, f2, p2, q2, hg2, ht2, hv2, hd2, _, _⟩, _⟩, _⟩, _, _⟩ := h
  obtain rfl := Option.some.inj (Tryz.gT.symm.trans hg2)
  obtain rfl := Option.some.inj (Tryz.gTType.symm.trans ht2)
  rw [tab_data] at hd2
  unfold TB Lib.TabIs
  rw [hv2, ← Lib.cells_of_tab Tryz.underlying150 Tryz.underlying67 Tryz.cells67 Tryz.cells150 hd2]

/-- The door's own heap meets the condition. -/
theorem door_met (os : Os) (args : Array Value) : laidMetH Tryz.prog laid5 ((World.doorLaid Tryz.prog 400 os).forCall (fun _ _ => 0) ⟨#[], args, []⟩).memory :=
  laidMetH_of_parts3 (fuel := 8) (laidMet_of_run' 8 (by kernel_rfl) (by kernel_rfl)) (by kernel_rfl) (by kernel_rfl)

end Go.Proofs.YtkjpfnbdlbnbkaaGreatDoor

namespace Go.Proofs.YtkjpfnbdlbnbkaaGreatDoor
open Go.RowKit

theorem dd_len_pw (n : Nat) (hn : 1 ≤ n) (X : Int) (h0 : 0 ≤ X) (h : X < pw n) : (Lib.decDigits X.toNat).length ≤ 7 * n := by
  refine dd_len_le (by omega) ?_
  have h1 : (1048576 : Nat) ^ n ≤ 10 ^ (7 * n) := by
    rw [Nat.pow_mul]
    exact Nat.pow_le_pow_left (by decide) n
  have h2 : ((1048576 ^ n : Nat) : Int) = pw n := by unfold pw; simp
  have h3 : X.toNat < 1048576 ^ n := by omega
  omega

/-- The pieces so far, of X, when Y is still to do. -/
def PcP (X Y : Int) (P : List (List UInt8)) : Prop := Lib.decDigits X.toNat = Lib.decDigits Y.toNat ++ P.reverse.flatten ∧ P.length ≤ P.reverse.flatten.length
theorem PcP.start (X : Int) : PcP X X [] := ⟨by simp, by simp⟩
theorem PcP.step {X Y : Int} {P : List (List UInt8)} (h : PcP X Y P) (h0 : 0 < Y / 1000000000000) :
    PcP X (Y / 1000000000000) (P ++ [List.replicate (12 - (Lib.decDigits (Y % 1000000000000).toNat).length) 48 ++ Lib.decDigits (Y % 1000000000000).toNat]) := by
  have hY : Y.toNat = (Y / 1000000000000).toNat * 10 ^ 12 + (Y % 1000000000000).toNat := by omega
  have hp := dd_pad 12 (Y / 1000000000000).toNat (Y % 1000000000000).toNat (by omega) (by omega) (by omega)
  rw [← hY] at hp
  obtain ⟨h1, h2⟩ := h
  refine ⟨?_, ?_⟩
  · rw [h1, hp, List.reverse_append, List.append_assoc]
    rfl
  · rw [List.reverse_append, List.length_append]
    show P.length + 1 ≤ ((List.replicate (12 - (Lib.decDigits (Y % 1000000000000).toNat).length) 48 ++ Lib.decDigits (Y % 1000000000000).toNat) ++ P.reverse.flatten).length
    have : 0 < (Lib.decDigits (Y % 1000000000000).toNat).length := List.length_pos_iff.2 (dd_ne _)
    rw [List.length_append, List.length_append]
    omega
theorem PcP.len {X Y : Int} {P : List (List UInt8)} (h : PcP X Y P) {n : Nat} (hX : (Lib.decDigits X.toNat).length ≤ n) : P.length ≤ n := by
  have h1 := congrArg List.length h.1
  rw [List.length_append] at h1
  have := h.2
  omega
theorem PcP.done {z Y : Int} {P : List (List UInt8)} (h : PcP (ab z) Y P) (hz : ¬ z < 0) : (P ++ [Lib.decDigits Y.toNat]).reverse.flatten = Lib.itoa z := by
  rw [itoa_ab, if_neg hz, h.1, List.reverse_append]
  rfl
theorem PcP.doneN {z Y : Int} {P : List (List UInt8)} (h : PcP (ab z) Y P) (hz : z < 0) : (P ++ [Lib.decDigits Y.toNat] ++ [[45]]).reverse.flatten = Lib.itoa z := by
  rw [itoa_ab, if_pos hz, h.1, List.reverse_append, List.reverse_append]
  rfl

theorem sgn_lt (z : Int) : (decide (sgn z < 0)) = decide (z < 0) := by
  unfold sgn
  split <;> (try split) <;> simp_all <;> omega

theorem byt_app (a b : List UInt8) : byt a ++ byt b = byt (a ++ b) := by
  apply ByteArray.ext
  unfold byt
  simp

set_option maxRecDepth 100000 in
set_option maxHeartbeats 1000000 in
theorem text_any (z : Int) (v : Value) (w : World) (h : BV w w.heap.size v z) (hz : ab z < pw 60) (ht : TB w) :
    Calls Tryz.prog 27 #[v] w fun e w' => e = .returned (.string (byt (Lib.itoa z))) ∧ Below w.heap.size w w' := by
  obtain ⟨A, c, rfl, hlc, hcm, hI⟩ := h
  have hX0 : 0 ≤ ab z := ab_nonneg z
  have hlen := dd_len_pw 60 (by omega) (ab z) hX0 hz
  have hl60 : (D (ab z)).length ≤ 60 := (D_len_le hX0).2 hz
  have hR : RightP (sgn z) (D (ab z)) := ⟨z, rfl, rfl, hz⟩
  have hB : Below w.heap.size w (w.alloc (.cells #[.int .i64 (sgn z), .slice A (D (ab z)).length c] 24)) := (Below.refl _ _).alloc (Nat.le_refl _) _
  have hsz0 : w.heap.size < (w.alloc (.cells #[.int .i64 (sgn z), .slice A (D (ab z)).length c] 24)).heap.size := by simp
  have hbk := Blk.new w 24 #[.int .i64 (sgn z), .slice A (D (ab z)).length c]
  obtain ⟨w0, hw0⟩ : ∃ w0, w.alloc (.cells #[.int .i64 (sgn z), .slice A (D (ab z)).length c] 24) = w0 := ⟨_, rfl⟩
  rw [hw0] at hB hsz0 hbk
  have hI0 : IntsAt w0.heap.size w0 A (D (ab z)) := (hI.below hB).more hB.size
  have ht0 := ht.below hB
  have hright := right_any (sgn z) (D (ab z)) A c w0 hI0 (by omega) true (by simp [hR])
  have hds : ∀ w1, Below w0.heap.size w0 w1 → _ := fun w1 hb => divideShort_any (D (ab z)) A c 1000000000000 w1 ((hI0.below hb).more hb.size) (Nrm_D _).1 (by omega) (by omega) (by omega)
  rw [nv_D hX0] at hds
  obtain ⟨n, hn⟩ : ∃ n, (D (ab z)).length = n := ⟨_, rfl⟩
  rw [hn] at hright hds hw0 hbk ⊢
  have hc0 : ∀ w', Below w0.heap.size w0 w' → w'.cell? ⟨w.heap.size, 0, none⟩ = some (.int .i64 (sgn z)) ∧ w'.cell? ⟨w.heap.size, 1, none⟩ = some (.slice A n c) := fun w' hb => by
    have hb2 := hbk.below hb hsz0
    exact ⟨hb2.cell 0, hb2.cell 1⟩
  have q0 := hbk.cell 0
  have q1 := hbk.cell 1
  simp at q0 q1
  have HZ := Lib.hid hz
  have HLEN := Lib.hid hlen
  have HC := Lib.hid hc0; clear hc0
  have HB := Lib.hid hB; clear hB
  have HRT := Lib.hid hright; clear hright
  have HDS := Lib.hid hds; clear hds
  have HT := Lib.hid ht0; clear ht0
  have HW := Lib.hid hw0
  have hs := sgn_lt z
  clear hI hI0 hR hz hl60 hlc hcm hn hlen ht
  go_enter Tryz.func27, Tryz.ntmps27
  go_wp2_with fail
  (with_reducible refine HRT.out.mono ?_)
  rintro e w1 ⟨rfl, hb1⟩
  have q1' := (HC.out _ hb1).2
  go_wp2_with fail
  (with_reducible refine (HDS.out _ hb1).mono ?_)
  rintro e w2 ⟨v2, rfl, hown2, hb2⟩
  have hb02 := hb1.trans (hb2.mono hb1.size)
  go_wp2_with fail
  go_loopg [3, 4, 5] (ab z).toNat (fun g pv rv iv wr => ∃ (Y : Int) (P : List (List UInt8)), g = Y.toNat ∧ 0 ≤ Y ∧ Y ≤ ab z ∧ OwnS wr w0.heap.size pv P ∧ OwnI wr w0.heap.size rv (D (Y / 1000000000000)) ∧ iv = .int .i64 (Y % 1000000000000) ∧ Hid (PcP (ab z) Y P) ∧ Below w0.heap.size w0 wr)
  case atStart => exact ⟨ab z, [], rfl, hX0, Int.le_refl _, OwnS.nil _ _, hown2.mono hb1.size, rfl, Lib.hid (PcP.start _), hb02⟩
  case round =>
    obtain ⟨Y, P, hg, hY, hYX, hP, hr, rfl, hpc, hbr⟩ := hrel
    obtain ⟨A2, c2, rfl, _, _, hI2⟩ := hr.at_
    obtain ⟨m, hm⟩ : ∃ m, Y % 1000000000000 = m := ⟨_, rfl⟩
    have hm0 : 0 ≤ m ∧ m < 1000000000000 := by omega
    have hitoa := fun w' (hb : Below w0.heap.size w0 w') => itoa_call m hm0.1 (by omega) w' (HT.out.below hb)
    obtain ⟨S, hS⟩ : ∃ S, byt (Lib.decDigits m.toNat) = S := ⟨_, rfl⟩
    rw [hS] at hitoa
    have hPl := hpc.out.len HLEN.out
    have hSl : S.size ≤ 12 := by rw [← hS, byt_size]; exact dd_len_le (by omega) (by omega)
    have hSs : S.size = (Lib.decDigits m.toNat).length := by rw [← hS, byt_size]
    have HIT := Lib.hid hitoa; clear hitoa
    by_cases hq : 0 < Y / 1000000000000
    · have hq1 := D_len_pos hq
      have hstep := hpc.out.step hq
      rw [hm] at hstep
      have hcat : byt (List.replicate (12 - S.size) 48) ++ S = byt (List.replicate (12 - (Lib.decDigits m.toNat).length) 48 ++ Lib.decDigits m.toNat) := by
        rw [hSs, ← hS, byt_app]
      have hrep := fun w' => repeat_call S hSl w'
      obtain ⟨R, hR⟩ : ∃ R, byt (List.replicate (12 - S.size) 48) = R := ⟨_, rfl⟩
      have hRs : R.size ≤ 12 := by rw [← hR, byt_size, List.length_replicate]; omega
      rw [hR] at hrep hcat
      have hadd : ∀ w', (Op.stringOp .add R S).run Tryz.prog w' = .ok (.string (byt (List.replicate (12 - (Lib.decDigits m.toNat).length) 48 ++ Lib.decDigits m.toNat))) w' := fun w' => by
        rw [run_string_add_sum w' R S (by omega), hcat]
      obtain ⟨C, hC⟩ : ∃ C, byt (List.replicate (12 - (Lib.decDigits m.toNat).length) 48 ++ Lib.decDigits m.toNat) = C := ⟨_, rfl⟩
      rw [hC] at hadd
      replace hcat := hC.symm
      have HREP := Lib.hid hrep; clear hrep hR hRs hC
      have HCAT := Lib.hid hcat; clear hcat hSs
      have hl2 : (D (Y / 1000000000000)).length ≤ 60 := by
        refine (D_len_le (by omega)).2 ?_
        have := HZ.out
        omega
      have hdv : nv (D (Y / 1000000000000)) = Y / 1000000000000 := nv_D (by omega)
      have hds : ∀ A2 c2 w1, IntsAt w1.heap.size w1 A2 (D (Y / 1000000000000)) → _ := fun A2 c2 w1 hI => divideShort_any (D (Y / 1000000000000)) A2 c2 1000000000000 w1 hI (Nrm_D _).1 (by omega) (by omega) (by omega)
      rw [hdv] at hds
      obtain ⟨k, hk⟩ : ∃ k, (D (Y / 1000000000000)).length = k := ⟨_, rfl⟩
      rw [hk] at hds hq1 hr ⊢
      have hqY : 0 ≤ Y / 1000000000000 ∧ Y / 1000000000000 ≤ ab z ∧ (Y / 1000000000000).toNat < Y.toNat := by omega
      obtain ⟨q, hqq⟩ : ∃ q, Y / 1000000000000 = q := ⟨_, rfl⟩
      rw [hqq] at hds hr hstep hqY
      obtain ⟨m2, hm2⟩ : ∃ m2, q % 1000000000000 = m2 := ⟨_, rfl⟩
      rw [hm2] at hds
      subst hg
      have HQY := Lib.hid hqY; clear hqY
      have HST := Lib.hid hstep; clear hstep
      have HM2 := Lib.hid hm2; clear hm2
      have HK := Lib.hid hk; clear hk
      have HD2 := Lib.hid hds; clear hds hdv
      have HS := Lib.hid hS; clear hS
      rw [hm]
      clear hI2 hqq hq hl2 hm
      go_wp2_with fail
      (with_reducible refine (HIT.out _ hbr).mono ?_)
      rintro e w3 ⟨rfl, hb3⟩
      have hP3 := hP.below hb3
      have hr3 := hr.below hb3
      have hbr3 := hbr.trans (hb3.mono hbr.size)
      go_wp2_with fail
      (with_reducible refine (HREP.out _).mono ?_)
      rintro e w4 ⟨rfl, hb4⟩
      have hP4 := hP3.below hb4
      have hr4 := hr3.below hb4
      have hbr4 := hbr3.trans (hb4.mono hbr3.size)
      go_wp2_with (first
        | (at_builtin; refine app1s rfl (.tmp 21) (.tmp 28) rfl w0.heap.size _ _ _ _ HCAT.out rfl hP4 rfl (by omega) hbr4.size ?_; intro v5 w5 hP5 hb5 hkeep))
      have hr5 := hkeep _ _ _ hr4
      clear hadd
      have hbr5 := hbr4.trans hb5
      obtain ⟨A5, c5, e5, _, _, hI5⟩ := hr5.at_
      injection e5 with e5a e5b e5c
      subst e5a e5c
      go_wp2_with fail
      (with_reducible refine (HD2.out _ _ _ hI5).mono ?_)
      rintro e w6 ⟨v6, rfl, hown6, hb6⟩
      go_wp2_with fail
      go_roundg q.toNat
      case measure => have := HQY.out; omega
      case rel => exact ⟨q, _, rfl, HQY.out.1, HQY.out.2.1, hP5.below hb6, hown6.mono hbr5.size, by rw [HM2.out], HST, hbr5.trans (hb6.mono hbr5.size)⟩
    · have hq0 : Y / 1000000000000 = 0 := by omega
      have hmY : m = Y := by omega
      subst hmY
      rw [hq0, D_zero] at hr ⊢
      have hfl : ∀ L : List (List UInt8), L.reverse.flatten = Lib.itoa z → L.reverse.flatten.length ≤ 1000000 := by
        intro L hL
        rw [hL, itoa_ab, List.length_append]
        have := HLEN.out
        split <;> simp <;> omega
      have HFL := Lib.hid hfl; clear hfl
      have HS := Lib.hid hS; clear hS
      rw [hm]
      clear hI2 hSs
      by_cases hneg : z < 0
      · have hd := hpc.out.doneN hneg
        have HDN := Lib.hid hd; clear hd
        simp only [hneg, decide_true, decide_eq_true_eq] at hs
        go_wp2_with fail
        (with_reducible refine (HIT.out _ hbr).mono ?_)
        rintro e w3 ⟨rfl, hb3⟩
        have hP3 := hP.below hb3
        have hbr3 := hbr.trans (hb3.mono hbr.size)
        go_wp2_with (first
          | (at_builtin; refine app1s rfl (.tmp 35) (.tmp 38) rfl w0.heap.size _ _ _ _ HS.out.symm rfl hP3 rfl (by omega) hbr3.size ?_; intro v5 w5 hP5 hb5 hkeep; have hbr5 := hbr3.trans hb5; have q50 := (HC.out _ hbr5).1)
          | (at_builtin; refine app1s rfl (.tmp 43) (.tmp 44) rfl w0.heap.size _ _ [45] _ rfl rfl hP5 rfl (by simp; omega) hbr5.size ?_; intro v6 w6 hP6 hb6 hkeep6; have hbr6 := hbr5.trans hb6))
        have hrv := fun w' (h : OwnS w' w0.heap.size v6 (P ++ [Lib.decDigits m.toNat] ++ [[45]])) => reverse_call h (by simp; omega)
        have hjn := fun w' (h : OwnS w' w0.heap.size v6 (P ++ [Lib.decDigits m.toNat] ++ [[45]]).reverse) => join_call h (by simp; omega) (by simp) (HFL.out _ HDN.out)
        rw [HDN.out] at hjn
        have HRV := Lib.hid hrv; clear hrv
        have HJN := Lib.hid hjn; clear hjn
        (with_reducible refine (HRV.out _ hP6).mono ?_)
        rintro e w7 ⟨rfl, hP7, hb7⟩
        have hbr7 := hbr6.trans hb7
        go_wp2_with fail
        (with_reducible refine (HJN.out _ hP7).mono ?_)
        rintro e w8 ⟨rfl, hb8⟩
        have hbr8 := hbr7.trans (hb8.mono hbr7.size)
        go_wp2_with fail
        go_ret
        exact ⟨rfl, HB.out.trans (hbr8.mono HB.out.size)⟩
      · have hd := hpc.out.done hneg
        have HDN := Lib.hid hd; clear hd
        have hs2 : decide (sgn z < 0) = false := by rw [hs]; simp [hneg]
        clear hneg hs
        go_wp2_with fail
        (with_reducible refine (HIT.out _ hbr).mono ?_)
        rintro e w3 ⟨rfl, hb3⟩
        have hP3 := hP.below hb3
        have hbr3 := hbr.trans (hb3.mono hbr.size)
        go_wp2_with (first
          | (at_builtin; refine app1s rfl (.tmp 35) (.tmp 38) rfl w0.heap.size _ _ _ _ HS.out.symm rfl hP3 rfl (by omega) hbr3.size ?_; intro v5 w5 hP5 hb5 hkeep; have hbr5 := hbr3.trans hb5; have q50 := (HC.out _ hbr5).1))
        have hrv := fun w' (h : OwnS w' w0.heap.size v5 (P ++ [Lib.decDigits m.toNat])) => reverse_call h (by simp; omega)
        have hjn := fun w' (h : OwnS w' w0.heap.size v5 (P ++ [Lib.decDigits m.toNat]).reverse) => join_call h (by simp; omega) (by simp) (HFL.out _ HDN.out)
        rw [HDN.out] at hjn
        have HRV := Lib.hid hrv; clear hrv
        have HJN := Lib.hid hjn; clear hjn
        (with_reducible refine (HRV.out _ hP5).mono ?_)
        rintro e w7 ⟨rfl, hP7, hb7⟩
        have hbr7 := hbr5.trans hb7
        go_wp2_with fail
        (with_reducible refine (HJN.out _ hP7).mono ?_)
        rintro e w8 ⟨rfl, hb8⟩
        have hbr8 := hbr7.trans (hb8.mono hbr7.size)
        go_wp2_with fail
        go_ret
        exact ⟨rfl, HB.out.trans (hbr8.mono HB.out.size)⟩

/-- Of what is no number of the layer: no text. -/
theorem text_bad (s : Int) (l : List Int) (A : Option Addr) (c : Nat) (w : World) (hI : IntsAt w.heap.size w A l) (hl : l.length ≤ 9223372036854775807) (hR : ¬ RightP s l) :
    Calls Tryz.prog 27 #[.agg #[.int .i64 s, .slice A l.length c]] w fun e w' => e = .returned (.string ⟨#[]⟩) ∧ Below w.heap.size w w' := by
  have hB : Below w.heap.size w (w.alloc (.cells #[.int .i64 s, .slice A l.length c] 24)) := (Below.refl _ _).alloc (Nat.le_refl _) _
  have hbk := Blk.new w 24 #[.int .i64 s, .slice A l.length c]
  obtain ⟨w0, hw0⟩ : ∃ w0, w.alloc (.cells #[.int .i64 s, .slice A l.length c] 24) = w0 := ⟨_, rfl⟩
  rw [hw0] at hB hbk
  have hright := right_any s l A c w0 ((hI.below hB).more hB.size) hl false (by simp [hR])
  obtain ⟨n, hn⟩ : ∃ n, l.length = n := ⟨_, rfl⟩
  rw [hn] at hright hw0 hbk ⊢
  have q0 := hbk.cell 0
  have q1 := hbk.cell 1
  simp at q0 q1
  have HB := Lib.hid hB; clear hB
  have HRT := Lib.hid hright; clear hright
  clear hI hR hl hn
  go_enter Tryz.func27, Tryz.ntmps27
  go_wp2_with fail
  (with_reducible refine HRT.out.mono ?_)
  rintro e w1 ⟨rfl, hb1⟩
  go_wp2_with fail
  go_ret
  exact ⟨rfl, HB.out.trans (hb1.mono HB.out.size)⟩

end Go.Proofs.YtkjpfnbdlbnbkaaGreatDoor

namespace Go.Proofs.YtkjpfnbdlbnbkaaGreatDoor
open Go.RowKit

/-- Is it an int? -/
def isI (z : Int) : Prop := -9223372036854775808 ≤ z ∧ z ≤ 9223372036854775807
instance (z : Int) : Decidable (isI z) := inferInstanceAs (Decidable (_ ∧ _))
def IntV (z : Int) : Value := if isI z then .tuple #[.int .i64 z, .bool true] else .tuple #[.int .i64 0, .bool false]
theorem IntV.yes {z : Int} (h : isI z) : IntV z = .tuple #[.int .i64 z, .bool true] := if_pos h
theorem IntV.no {z : Int} (h : ¬ isI z) : IntV z = .tuple #[.int .i64 0, .bool false] := if_neg h

theorem pw3 : pw 3 = 1152921504606846976 := by decide
theorem pw4 : pw 4 = 1208925819614629174706176 := by decide

theorem four {l : List Int} (hd : Dig l) (hl : l.length = 4) : pw 3 * l.getD 3 0 ≤ nv l ∧ nv l < pw 3 * (l.getD 3 0 + 1) := by
  have h1 := nv_take_succ (l := l) (k := 3) (by omega)
  rw [nv_take_all l (by omega)] at h1
  have h2 : Dig (l.take 3) := fun d h => hd d (List.mem_of_mem_take h)
  have h3 := h2.nv_lt
  have h4 := h2.nv_nonneg
  rw [List.length_take, hl] at h3
  have h5 : min 3 4 = 3 := rfl
  rw [h5] at h3
  rw [pw3] at *
  omega

theorem back_neg {z X : Int} (h : z < 0) (hX : X = -z) (h63 : X ≤ 9223372036854775808) : IntKind.i64.wrap (IntKind.u64.wrap (-X)) = z := by
  rw [IntKind.wrap_i64]
  show _ = _
  have : IntKind.u64.wrap (-X) = (-X) % 18446744073709551616 := rfl
  rw [this]
  omega

set_option maxRecDepth 100000 in
set_option maxHeartbeats 1000000 in
theorem int_any (z : Int) (v : Value) (w : World) (h : BV w w.heap.size v z) (hz : ab z < pw 60) :
    Calls Tryz.prog 16 #[v] w fun e w' => e = .returned (IntV z) ∧ Below w.heap.size w w' := by
  obtain ⟨A, c, rfl, hlc, hcm, hI⟩ := h
  have hX0 : 0 ≤ ab z := ab_nonneg z
  have hl60 : (D (ab z)).length ≤ 60 := (D_len_le hX0).2 hz
  have hR : RightP (sgn z) (D (ab z)) := ⟨z, rfl, rfl, hz⟩
  have hB : Below w.heap.size w (w.alloc (.cells #[.int .i64 (sgn z), .slice A (D (ab z)).length c] 24)) := (Below.refl _ _).alloc (Nat.le_refl _) _
  have hsz0 : w.heap.size < (w.alloc (.cells #[.int .i64 (sgn z), .slice A (D (ab z)).length c] 24)).heap.size := by simp
  have hbk := Blk.new w 24 #[.int .i64 (sgn z), .slice A (D (ab z)).length c]
  obtain ⟨w0, hw0⟩ : ∃ w0, w.alloc (.cells #[.int .i64 (sgn z), .slice A (D (ab z)).length c] 24) = w0 := ⟨_, rfl⟩
  rw [hw0] at hB hsz0 hbk
  have hI0 : IntsAt w0.heap.size w0 A (D (ab z)) := (hI.below hB).more hB.size
  have hright := right_any (sgn z) (D (ab z)) A c w0 hI0 (by omega) true (by simp [hR])
  have hj : nv (D (ab z)) < 18446744073709551616 → ∀ w1, Below w0.heap.size w0 w1 → _ := fun hlt w1 hb => join_any A c (D (ab z)) w1 ((hI0.below hb).more hb.size) (Nrm_D _).1 (by omega) hlt
  rw [nv_D hX0] at hj
  have h4 := four (l := D (ab z)) (Nrm_D _).1
  rw [nv_D hX0, pw3] at h4
  have h5 := D_len_lt hX0 (k := 4)
  rw [pw4] at h5
  have h3 := D_len_le hX0 (k := 3)
  rw [pw3] at h3
  have hc3 := fun (w1 : World) (hb : Below w0.heap.size w0 w1) (h : 3 < (D (ab z)).length) => (hI0.below hb) 3 h
  obtain ⟨d3, hd3⟩ : ∃ d3, (D (ab z)).getD 3 0 = d3 := ⟨_, rfl⟩
  rw [hd3] at hc3 h4
  obtain ⟨n, hn⟩ : ∃ n, (D (ab z)).length = n := ⟨_, rfl⟩
  rw [hn] at hright hj hw0 hbk h4 h5 h3 hc3 hlc hl60 ⊢
  have hc0 : ∀ w', Below w0.heap.size w0 w' → w'.cell? ⟨w.heap.size, 0, none⟩ = some (.int .i64 (sgn z)) ∧ w'.cell? ⟨w.heap.size, 1, none⟩ = some (.slice A n c) := fun w' hb => by
    have hb2 := hbk.below hb hsz0
    exact ⟨hb2.cell 0, hb2.cell 1⟩
  have q0 := hbk.cell 0
  have q1 := hbk.cell 1
  simp at q0 q1
  have hab : ab z = if z < 0 then -z else z := by unfold ab; split <;> omega
  obtain ⟨X, hX⟩ : ∃ X, ab z = X := ⟨_, rfl⟩
  rw [hX] at hj h4 h5 h3 hab hX0
  have HC := Lib.hid hc0; clear hc0
  have HB := Lib.hid hB; clear hB
  have HRT := Lib.hid hright; clear hright
  have HJ := Lib.hid hj; clear hj
  have HC3 := Lib.hid hc3; clear hc3
  have hs := sgn_lt z
  clear hI hI0 hR hz hl60 hlc hcm hn hd3 hX hbk
  by_cases hn4 : 4 < n
  · have hno : ¬ isI z := by
      unfold isI
      have := h5.1 hn4
      split at hab <;> omega
    have hn4' : (4 : Int) < (n : Int) := by omega
    rw [IntV.no hno]
    clear h3 h4 h5 hab hs hno
    go_enter Tryz.func16, Tryz.ntmps16
    go_wp2_with fail
    (with_reducible refine HRT.out.mono ?_)
    rintro e w1 ⟨rfl, hb1⟩
    have q1' := (HC.out _ hb1).2
    go_wp2_with fail
    refine bodyPost_ret (v := .tuple #[.int .i64 0, .bool false]) (by simp [results, Tryz.results16, go_sem]) rfl ?_
    exact ⟨rfl, HB.out.trans (hb1.mono HB.out.size)⟩
  · by_cases hne : n = 4
    · subst hne
      have h4 := h4 rfl
      by_cases h8 : 8 < d3
      · have hno : ¬ isI z := by
          unfold isI
          split at hab <;> omega
        rw [IntV.no hno]
        clear h3 h4 h5 hab hs hno
        go_enter Tryz.func16, Tryz.ntmps16
        go_wp2_with fail
        (with_reducible refine HRT.out.mono ?_)
        rintro e w1 ⟨rfl, hb1⟩
        have q1' := (HC.out _ hb1).2
        obtain ⟨b, off, rfl, hbB, hcell⟩ := HC3.out _ hb1 (by omega)
        go_wp2_with fail
        refine bodyPost_ret (v := .tuple #[.int .i64 0, .bool false]) (by simp [results, Tryz.results16, go_sem]) rfl ?_
        exact ⟨rfl, HB.out.trans (hb1.mono HB.out.size)⟩
      · have h5 := h5
        have hlt : X < 18446744073709551616 := by omega
        have hjj := HJ.out hlt
        have HJJ := Lib.hid hjj; clear hjj
        by_cases hz0 : z < 0
        · rw [if_pos hz0] at hab
          have hs2 : decide (sgn z < 0) = true := by rw [hs]; simp [hz0]
          by_cases hm : X ≤ 9223372036854775808
          · have hbn := back_neg hz0 hab hm
            have hyes : isI z := by unfold isI; omega
            rw [IntV.yes hyes]
            clear hz0 hab
            clear h3 h4 h5 hs hyes hlt
            go_enter Tryz.func16, Tryz.ntmps16
            go_wp2_with fail
            (with_reducible refine HRT.out.mono ?_)
            rintro e w1 ⟨rfl, hb1⟩
            have q1' := (HC.out _ hb1).2
            obtain ⟨b, off, rfl, hbB, hcell⟩ := HC3.out _ hb1 (by omega)
            go_wp2_with fail
            (with_reducible refine (HJJ.out _ hb1).mono ?_)
            rintro e w2 ⟨rfl, hb2⟩
            have hb02 := hb1.trans (hb2.mono hb1.size)
            have q0' := (HC.out _ hb02).1
            go_wp2_with fail
            refine bodyPost_ret (v := .tuple #[.int .i64 z, .bool true]) (by simp [results, Tryz.results16, go_sem]) rfl ?_
            exact ⟨rfl, HB.out.trans (hb02.mono HB.out.size)⟩
          · have hm2 : ¬ X ≤ 9223372036854775807 := by omega
            have hyes : ¬ isI z := by unfold isI; omega
            rw [IntV.no hyes]
            clear hz0 hab
            clear h3 h4 h5 hs hyes hlt
            go_enter Tryz.func16, Tryz.ntmps16
            go_wp2_with fail
            (with_reducible refine HRT.out.mono ?_)
            rintro e w1 ⟨rfl, hb1⟩
            have q1' := (HC.out _ hb1).2
            obtain ⟨b, off, rfl, hbB, hcell⟩ := HC3.out _ hb1 (by omega)
            go_wp2_with fail
            (with_reducible refine (HJJ.out _ hb1).mono ?_)
            rintro e w2 ⟨rfl, hb2⟩
            have hb02 := hb1.trans (hb2.mono hb1.size)
            have q0' := (HC.out _ hb02).1
            go_wp2_with fail
            refine bodyPost_ret (v := .tuple #[.int .i64 0, .bool false]) (by simp [results, Tryz.results16, go_sem]) rfl ?_
            exact ⟨rfl, HB.out.trans (hb02.mono HB.out.size)⟩
        · rw [if_neg hz0] at hab
          have hs2 : decide (sgn z < 0) = false := by rw [hs]; simp [hz0]
          have hab := hab.symm; subst hab
          by_cases hm : z ≤ 9223372036854775807
          · have hbn : IntKind.i64.wrap z = z := by rw [IntKind.wrap_i64]; omega
            have hyes : isI z := by unfold isI; omega
            rw [IntV.yes hyes]
            clear hz0
            clear h3 h4 h5 hs hyes hlt
            go_enter Tryz.func16, Tryz.ntmps16
            go_wp2_with fail
            (with_reducible refine HRT.out.mono ?_)
            rintro e w1 ⟨rfl, hb1⟩
            have q1' := (HC.out _ hb1).2
            obtain ⟨b, off, rfl, hbB, hcell⟩ := HC3.out _ hb1 (by omega)
            go_wp2_with fail
            (with_reducible refine (HJJ.out _ hb1).mono ?_)
            rintro e w2 ⟨rfl, hb2⟩
            have hb02 := hb1.trans (hb2.mono hb1.size)
            have q0' := (HC.out _ hb02).1
            go_wp2_with fail
            refine bodyPost_ret (v := .tuple #[.int .i64 z, .bool true]) (by simp [results, Tryz.results16, go_sem]) rfl ?_
            exact ⟨rfl, HB.out.trans (hb02.mono HB.out.size)⟩
          · skip
            have hyes : ¬ isI z := by unfold isI; omega
            rw [IntV.no hyes]
            clear hz0
            clear h3 h4 h5 hs hyes hlt
            go_enter Tryz.func16, Tryz.ntmps16
            go_wp2_with fail
            (with_reducible refine HRT.out.mono ?_)
            rintro e w1 ⟨rfl, hb1⟩
            have q1' := (HC.out _ hb1).2
            obtain ⟨b, off, rfl, hbB, hcell⟩ := HC3.out _ hb1 (by omega)
            go_wp2_with fail
            (with_reducible refine (HJJ.out _ hb1).mono ?_)
            rintro e w2 ⟨rfl, hb2⟩
            have hb02 := hb1.trans (hb2.mono hb1.size)
            have q0' := (HC.out _ hb02).1
            go_wp2_with fail
            refine bodyPost_ret (v := .tuple #[.int .i64 0, .bool false]) (by simp [results, Tryz.results16, go_sem]) rfl ?_
            exact ⟨rfl, HB.out.trans (hb02.mono HB.out.size)⟩
    · have hn3 : n ≤ 3 := by omega
      have hX3 := h3.1 hn3
      have hne' : ¬ (n : Int) = 4 := by omega
      have hn4' : ¬ (4 : Int) < (n : Int) := by omega
      have hlt : X < 18446744073709551616 := by omega
      have hjj := HJ.out hlt
      have HJJ := Lib.hid hjj; clear hjj
      by_cases hz0 : z < 0
      · rw [if_pos hz0] at hab
        have hs2 : decide (sgn z < 0) = true := by rw [hs]; simp [hz0]
        by_cases hm : X ≤ 9223372036854775808
        · have hbn := back_neg hz0 hab hm
          have hyes : isI z := by unfold isI; omega
          rw [IntV.yes hyes]
          clear hz0 hab
          clear h3 h4 h5 hs hyes hlt
          go_enter Tryz.func16, Tryz.ntmps16
          go_wp2_with fail
          (with_reducible refine HRT.out.mono ?_)
          rintro e w1 ⟨rfl, hb1⟩
          have q1' := (HC.out _ hb1).2
          go_wp2_with fail
          (with_reducible refine (HJJ.out _ hb1).mono ?_)
          rintro e w2 ⟨rfl, hb2⟩
          have hb02 := hb1.trans (hb2.mono hb1.size)
          have q0' := (HC.out _ hb02).1
          go_wp2_with fail
          refine bodyPost_ret (v := .tuple #[.int .i64 z, .bool true]) (by simp [results, Tryz.results16, go_sem]) rfl ?_
          exact ⟨rfl, HB.out.trans (hb02.mono HB.out.size)⟩
        · exfalso; omega
      · rw [if_neg hz0] at hab
        have hs2 : decide (sgn z < 0) = false := by rw [hs]; simp [hz0]
        have hab := hab.symm; subst hab
        by_cases hm : z ≤ 9223372036854775807
        · have hbn : IntKind.i64.wrap z = z := by rw [IntKind.wrap_i64]; omega
          have hyes : isI z := by unfold isI; omega
          rw [IntV.yes hyes]
          clear hz0
          clear h3 h4 h5 hs hyes hlt
          go_enter Tryz.func16, Tryz.ntmps16
          go_wp2_with fail
          (with_reducible refine HRT.out.mono ?_)
          rintro e w1 ⟨rfl, hb1⟩
          have q1' := (HC.out _ hb1).2
          go_wp2_with fail
          (with_reducible refine (HJJ.out _ hb1).mono ?_)
          rintro e w2 ⟨rfl, hb2⟩
          have hb02 := hb1.trans (hb2.mono hb1.size)
          have q0' := (HC.out _ hb02).1
          go_wp2_with fail
          refine bodyPost_ret (v := .tuple #[.int .i64 z, .bool true]) (by simp [results, Tryz.results16, go_sem]) rfl ?_
          exact ⟨rfl, HB.out.trans (hb02.mono HB.out.size)⟩
        · exfalso; omega

end Go.Proofs.YtkjpfnbdlbnbkaaGreatDoor
