/- Walks: text. Walks: back to an int. Walks: sum, Add, Sub. -/
import Derived.Test.YtbhdkgieahnojaaGreatDoorXah
import Derived.Laws.Concat
import Derived.Test.YtbhdkgieahnojaaGreatDoorXac
import Derived.Test.YtbhdkgieahnojaaGreatDoorXag

namespace Go.Proofs.YtbhdkgieahnojaaGreatDoor
open Go.RowKit

theorem dd_len_pw (n : Nat) (hn : 1 ≤ n) (X : Int) (h0 : 0 ≤ X) (h : X < pw n) : (Lib.decDigits X.toNat).length ≤ 7 * n := by
  refine dd_len_le (by omega) ?_
  have h1 : (1048576 : Nat) ^ n ≤ 10 ^ (7 * n) := by
    rw [Nat.pow_mul]
    exact Nat.pow_le_pow_left (by decide) n
  have h2 : ((1048576 ^ n : Nat) : Int) = pw n := by unfold pw; simp
  have h3 : X.toNat < 1048576 ^ n := by omega
  omega

/-- The pieces so far, of X, when Y is still to do. -/
def PcP (X Y : Int) (P : List (List UInt8)) : Prop := Lib.decDigits X.toNat = Lib.decDigits Y.toNat ++ P.reverse.flatten ∧ P.length ≤ P.reverse.flatten.length
theorem PcP.start (X : Int) : PcP X X [] := ⟨by simp, by simp⟩
theorem PcP.step {X Y : Int} {P : List (List UInt8)} (h : PcP X Y P) (h0 : 0 < Y / 1000000000000) :
    PcP X (Y / 1000000000000) (P ++ [List.replicate (12 - (Lib.decDigits (Y % 1000000000000).toNat).length) 48 ++ Lib.decDigits (Y % 1000000000000).toNat]) := by
  have hY : Y.toNat = (Y / 1000000000000).toNat * 10 ^ 12 + (Y % 1000000000000).toNat := by omega
  have hp := dd_pad 12 (Y / 1000000000000).toNat (Y % 1000000000000).toNat (by omega) (by omega) (by omega)
  rw [← hY] at hp
  obtain ⟨h1, h2⟩ := h
  refine ⟨?_, ?_⟩
  · rw [h1, hp, List.reverse_append, List.append_assoc]
    rfl
  · rw [List.reverse_append, List.length_append]
    show P.length + 1 ≤ ((List.replicate (12 - (Lib.decDigits (Y % 1000000000000).toNat).length) 48 ++ Lib.decDigits (Y % 1000000000000).toNat) ++ P.reverse.flatten).length
    have : 0 < (Lib.decDigits (Y % 1000000000000).toNat).length := List.length_pos_iff.2 (dd_ne _)
    rw [List.length_append, List.length_append]
    omega
theorem PcP.len {X Y : Int} {P : List (List UInt8)} (h : PcP X Y P) {n : Nat} (hX : (Lib.decDigits X.toNat).length ≤ n) : P.length ≤ n := by
  have h1 := congrArg List.length h.1
  rw [List.length_append] at h1
  have := h.2
  omega
theorem PcP.done {z Y : Int} {P : List (List UInt8)} (h : PcP (ab z) Y P) (hz : ¬ z < 0) : (P ++ [Lib.decDigits Y.toNat]).reverse.flatten = Lib.itoa z := by
  rw [itoa_ab, if_neg hz, h.1, List.reverse_append]
  rfl
theorem PcP.doneN {z Y : Int} {P : List (List UInt8)} (h : PcP (ab z) Y P) (hz : z < 0) : (P ++ [Lib.decDigits Y.toNat] ++ [[45]]).reverse.flatten = Lib.itoa z := by
  rw [itoa_ab, if_pos hz, h.1, List.reverse_append, List.reverse_append]
  rfl

theorem sgn_lt (z : Int) : (decide (sgn z < 0)) = decide (z < 0) := by
  unfold sgn
  split <;> (try split) <;> simp_all <;> omega

theorem byt_app (a b : List UInt8) : byt a ++ byt b = byt (a ++ b) := by
  apply ByteArray.ext
  unfold byt
  simp

set_option maxRecDepth 100000 in
set_option maxHeartbeats 1000000 in
theorem text_any (z : Int) (v : Value) (w : World) (h : BV w w.heap.size v z) (hz : ab z < pw 60) (ht : TB w) :
    Calls Tryz.prog 31 #[v] w fun e w' => e = .returned (.string (byt (Lib.itoa z))) ∧ Below w.heap.size w w' := by
  obtain ⟨A, c, rfl, hlc, hcm, hI⟩ := h
  have hX0 : 0 ≤ ab z := ab_nonneg z
  have hlen := dd_len_pw 60 (by omega) (ab z) hX0 hz
  have hl60 : (D (ab z)).length ≤ 60 := (D_len_le hX0).2 hz
  have hR : RightP (sgn z) (D (ab z)) := ⟨z, rfl, rfl, hz⟩
  have hB : Below w.heap.size w (w.alloc (.cells #[.int .i64 (sgn z), .slice A (D (ab z)).length c] 24)) := (Below.refl _ _).alloc (Nat.le_refl _) _
  have hsz0 : w.heap.size < (w.alloc (.cells #[.int .i64 (sgn z), .slice A (D (ab z)).length c] 24)).heap.size := by simp
  have hbk := Blk.new w 24 #[.int .i64 (sgn z), .slice A (D (ab z)).length c]
  obtain ⟨w0, hw0⟩ : ∃ w0, w.alloc (.cells #[.int .i64 (sgn z), .slice A (D (ab z)).length c] 24) = w0 := ⟨_, rfl⟩
  rw [hw0] at hB hsz0 hbk
  have hI0 : IntsAt w0.heap.size w0 A (D (ab z)) := (hI.below hB).more hB.size
  have ht0 := ht.below hB
  have hright := right_any (sgn z) (D (ab z)) A c w0 hI0 (by omega) true (by simp [hR])
  have hds : ∀ w1, Below w0.heap.size w0 w1 → _ := fun w1 hb => divideShort_any (D (ab z)) A c 1000000000000 w1 ((hI0.below hb).more hb.size) (Nrm_D _).1 (by omega) (by omega) (by omega)
  rw [nv_D hX0] at hds
  obtain ⟨n, hn⟩ : ∃ n, (D (ab z)).length = n := ⟨_, rfl⟩
  rw [hn] at hright hds hw0 hbk ⊢
  have hc0 : ∀ w', Below w0.heap.size w0 w' → w'.cell? ⟨w.heap.size, 0, none⟩ = some (.int .i64 (sgn z)) ∧ w'.cell? ⟨w.heap.size, 1, none⟩ = some (.slice A n c) := fun w' hb => by
    have hb2 := hbk.below hb hsz0
    exact ⟨hb2.cell 0, hb2.cell 1⟩
  have q0 := hbk.cell 0
  have q1 := hbk.cell 1
  simp at q0 q1
  have HZ := Lib.hid hz
  have HLEN := Lib.hid hlen
  have HC := Lib.hid hc0; clear hc0
  have HB := Lib.hid hB; clear hB
  have HRT := Lib.hid hright; clear hright
  have HDS := Lib.hid hds; clear hds
  have HT := Lib.hid ht0; clear ht0
  have HW := Lib.hid hw0
  have hs := sgn_lt z
  clear hI hI0 hR hz hl60 hlc hcm hn hlen ht
  go_enter Tryz.func31, Tryz.ntmps31
  go_wp2_with fail
  (with_reducible refine HRT.out.mono ?_)
  rintro e w1 ⟨rfl, hb1⟩
  have q1' := (HC.out _ hb1).2
  go_wp2_with fail
  (with_reducible refine (HDS.out _ hb1).mono ?_)
  rintro e w2 ⟨v2, rfl, hown2, hb2⟩
  have hb02 := hb1.trans (hb2.mono hb1.size)
  go_wp2_with fail
  go_loopg [3, 4, 5] (ab z).toNat (fun g pv rv iv wr => ∃ (Y : Int) (P : List (List UInt8)), g = Y.toNat ∧ 0 ≤ Y ∧ Y ≤ ab z ∧ OwnS wr w0.heap.size pv P ∧ OwnI wr w0.heap.size rv (D (Y / 1000000000000)) ∧ iv = .int .i64 (Y % 1000000000000) ∧ Hid (PcP (ab z) Y P) ∧ Below w0.heap.size w0 wr)
  case atStart => exact ⟨ab z, [], rfl, hX0, Int.le_refl _, OwnS.nil _ _, hown2.mono hb1.size, rfl, Lib.hid (PcP.start _), hb02⟩
  case round =>
    obtain ⟨Y, P, hg, hY, hYX, hP, hr, rfl, hpc, hbr⟩ := hrel
    obtain ⟨A2, c2, rfl, _, _, hI2⟩ := hr.at_
    obtain ⟨m, hm⟩ : ∃ m, Y % 1000000000000 = m := ⟨_, rfl⟩
    have hm0 : 0 ≤ m ∧ m < 1000000000000 := by omega
    have hitoa := fun w' (hb : Below w0.heap.size w0 w') => itoa_call m hm0.1 (by omega) w' (HT.out.below hb)
    obtain ⟨S, hS⟩ : ∃ S, byt (Lib.decDigits m.toNat) = S := ⟨_, rfl⟩
    rw [hS] at hitoa
    have hPl := hpc.out.len HLEN.out
    have hSl : S.size ≤ 12 := by rw [← hS, byt_size]; exact dd_len_le (by omega) (by omega)
    have hSs : S.size = (Lib.decDigits m.toNat).length := by rw [← hS, byt_size]
    have HIT := Lib.hid hitoa; clear hitoa
    by_cases hq : 0 < Y / 1000000000000
    · have hq1 := D_len_pos hq
      have hstep := hpc.out.step hq
      rw [hm] at hstep
      have hcat : byt (List.replicate (12 - S.size) 48) ++ S = byt (List.replicate (12 - (Lib.decDigits m.toNat).length) 48 ++ Lib.decDigits m.toNat) := by
        rw [hSs, ← hS, byt_app]
      have hrep := fun w' => repeat_call S hSl w'
      obtain ⟨R, hR⟩ : ∃ R, byt (List.replicate (12 - S.size) 48) = R := ⟨_, rfl⟩
      have hRs : R.size ≤ 12 := by rw [← hR, byt_size, List.length_replicate]; omega
      rw [hR] at hrep hcat
      have hadd : ∀ w', (Op.stringOp .add R S).run Tryz.prog w' = .ok (.string (byt (List.replicate (12 - (Lib.decDigits m.toNat).length) 48 ++ Lib.decDigits m.toNat))) w' := fun w' => by
        rw [run_string_add_sum w' R S (by omega), hcat]
      obtain ⟨C, hC⟩ : ∃ C, byt (List.replicate (12 - (Lib.decDigits m.toNat).length) 48 ++ Lib.decDigits m.toNat) = C := ⟨_, rfl⟩
      rw [hC] at hadd
      replace hcat := hC.symm
      have HREP := Lib.hid hrep; clear hrep hR hRs hC
      have HCAT := Lib.hid hcat; clear hcat hSs
      have hl2 : (D (Y / 1000000000000)).length ≤ 60 := by
        refine (D_len_le (by omega)).2 ?_
        have := HZ.out
        omega
      have hdv : nv (D (Y / 1000000000000)) = Y / 1000000000000 := nv_D (by omega)
      have hds : ∀ A2 c2 w1, IntsAt w1.heap.size w1 A2 (D (Y / 1000000000000)) → _ := fun A2 c2 w1 hI => divideShort_any (D (Y / 1000000000000)) A2 c2 1000000000000 w1 hI (Nrm_D _).1 (by omega) (by omega) (by omega)
      rw [hdv] at hds
      obtain ⟨k, hk⟩ : ∃ k, (D (Y / 1000000000000)).length = k := ⟨_, rfl⟩
      rw [hk] at hds hq1 hr ⊢
      have hqY : 0 ≤ Y / 1000000000000 ∧ Y / 1000000000000 ≤ ab z ∧ (Y / 1000000000000).toNat < Y.toNat := by omega
      obtain ⟨q, hqq⟩ : ∃ q, Y / 1000000000000 = q := ⟨_, rfl⟩
      rw [hqq] at hds hr hstep hqY
      obtain ⟨m2, hm2⟩ : ∃ m2, q % 1000000000000 = m2 := ⟨_, rfl⟩
      rw [hm2] at hds
      subst hg
      have HQY := Lib.hid hqY; clear hqY
      have HST := Lib.hid hstep; clear hstep
      have HM2 := Lib.hid hm2; clear hm2
      have HK := Lib.hid hk; clear hk
      have HD2 := Lib.hid hds; clear hds hdv
      have HS := Lib.hid hS; clear hS
      rw [hm]
      clear hI2 hqq hq hl2 hm
      go_wp2_with fail
      (with_reducible refine (HIT.out _ hbr).mono ?_)
      rintro e w3 ⟨rfl, hb3⟩
      have hP3 := hP.below hb3
      have hr3 := hr.below hb3
      have hbr3 := hbr.trans (hb3.mono hbr.size)
      go_wp2_with fail
      (with_reducible refine (HREP.out _).mono ?_)
      rintro e w4 ⟨rfl, hb4⟩
      have hP4 := hP3.below hb4
      have hr4 := hr3.below hb4
      have hbr4 := hbr3.trans (hb4.mono hbr3.size)
      go_wp2_with (first
        | (at_builtin; refine app1s rfl (.tmp 21) (.tmp 28) rfl w0.heap.size _ _ _ _ HCAT.out rfl hP4 rfl (by omega) hbr4.size ?_; intro v5 w5 hP5 hb5 hkeep))
      have hr5 := hkeep _ _ _ hr4
      clear hadd
      have hbr5 := hbr4.trans hb5
      obtain ⟨A5, c5, e5, _, _, hI5⟩ := hr5.at_
      injection e5 with e5a e5b e5c
      subst e5a e5c
      go_wp2_with fail
      (with_reducible refine (HD2.out _ _ _ hI5).mono ?_)
      rintro e w6 ⟨v6, rfl, hown6, hb6⟩
      go_wp2_with fail
      go_roundg q.toNat
      case measure => have := HQY.out; omega
      case rel => exact ⟨q, _, rfl, HQY.out.1, HQY.out.2.1, hP5.below hb6, hown6.mono hbr5.size, by rw [HM2.out], HST, hbr5.trans (hb6.mono hbr5.size)⟩
    · have hq0 : Y / 1000000000000 = 0 := by omega
      have hmY : m = Y := by omega
      subst hmY
      rw [hq0, D_zero] at hr ⊢
      have hfl : ∀ L : List (List UInt8), L.reverse.flatten = Lib.itoa z → L.reverse.flatten.length ≤ 1000000 := by
        intro L hL
        rw [hL, itoa_ab, List.length_append]
        have := HLEN.out
        split <;> simp <;> omega
      have HFL := Lib.hid hfl; clear hfl
      have HS := Lib.hid hS; clear hS
      rw [hm]
      clear hI2 hSs
      by_cases hneg : z < 0
      · have hd := hpc.out.doneN hneg
        have HDN := Lib.hid hd; clear hd
        simp only [hneg, decide_true, decide_eq_true_eq] at hs
        go_wp2_with fail
        (with_reducible refine (HIT.out _ hbr).mono ?_)
        rintro e w3 ⟨rfl, hb3⟩
        have hP3 := hP.below hb3
        have hbr3 := hbr.trans (hb3.mono hbr.size)
        go_wp2_with (first
          | (at_builtin; refine app1s rfl (.tmp 35) (.tmp 38) rfl w0.heap.size _ _ _ _ HS.out.symm rfl hP3 rfl (by omega) hbr3.size ?_; intro v5 w5 hP5 hb5 hkeep; have hbr5 := hbr3.trans hb5; have q50 := (HC.out _ hbr5).1)
          | (at_builtin; refine app1s rfl (.tmp 43) (.tmp 44) rfl w0.heap.size _ _ [45] _ rfl rfl hP5 rfl (by simp; omega) hbr5.size ?_; intro v6 w6 hP6 hb6 hkeep6; have hbr6 := hbr5.trans hb6))
        have hrv := fun w' (h : OwnS w' w0.heap.size v6 (P ++ [Lib.decDigits m.toNat] ++ [[45]])) => reverse_call h (by simp; omega)
        have hjn := fun w' (h : OwnS w' w0.heap.size v6 (P ++ [Lib.decDigits m.toNat] ++ [[45]]).reverse) => join_call h (by simp; omega) (by simp) (HFL.out _ HDN.out)
        rw [HDN.out] at hjn
        have HRV := Lib.hid hrv; clear hrv
        have HJN := Lib.hid hjn; clear hjn
        (with_reducible refine (HRV.out _ hP6).mono ?_)
        rintro e w7 ⟨rfl, hP7, hb7⟩
        have hbr7 := hbr6.trans hb7
        go_wp2_with fail
        (with_reducible refine (HJN.out _ hP7).mono ?_)
        rintro e w8 ⟨rfl, hb8⟩
        have hbr8 := hbr7.trans (hb8.mono hbr7.size)
        go_wp2_with fail
        go_ret
        exact ⟨rfl, HB.out.trans (hbr8.mono HB.out.size)⟩
      · have hd := hpc.out.done hneg
        have HDN := Lib.hid hd; clear hd
        have hs2 : decide (sgn z < 0) = false := by rw [hs]; simp [hneg]
        clear hneg hs
        go_wp2_with fail
        (with_reducible refine (HIT.out _ hbr).mono ?_)
        rintro e w3 ⟨rfl, hb3⟩
        have hP3 := hP.below hb3
        have hbr3 := hbr.trans (hb3.mono hbr.size)
        go_wp2_with (first
          | (at_builtin; refine app1s rfl (.tmp 35) (.tmp 38) rfl w0.heap.size _ _ _ _ HS.out.symm rfl hP3 rfl (by omega) hbr3.size ?_; intro v5 w5 hP5 hb5 hkeep; have hbr5 := hbr3.trans hb5; have q50 := (HC.out _ hbr5).1))
        have hrv := fun w' (h : OwnS w' w0.heap.size v5 (P ++ [Lib.decDigits m.toNat])) => reverse_call h (by simp; omega)
        have hjn := fun w' (h : OwnS w' w0.heap.size v5 (P ++ [Lib.decDigits m.toNat]).reverse) => join_call h (by simp; omega) (by simp) (HFL.out _ HDN.out)
        rw [HDN.out] at hjn
        have HRV := Lib.hid hrv; clear hrv
        have HJN := Lib.hid hjn; clear hjn
        (with_reducible refine (HRV.out _ hP5).mono ?_)
        rintro e w7 ⟨rfl, hP7, hb7⟩
        have hbr7 := hbr5.trans hb7
        go_wp2_with fail
        (with_reducible refine (HJN.out _ hP7).mono ?_)
        rintro e w8 ⟨rfl, hb8⟩
        have hbr8 := hbr7.trans (hb8.mono hbr7.size)
        go_wp2_with fail
        go_ret
        exact ⟨rfl, HB.out.trans (hbr8.mono HB.out.size)⟩

/-- Of what is no number of the layer: no text. -/
theorem text_bad (s : Int) (l : List Int) (A : Option Addr) (c : Nat) (w : World) (hI : IntsAt w.heap.size w A l) (hl : l.length ≤ 9223372036854775807) (hR : ¬ RightP s l) :
    Calls Tryz.prog 31 #[.agg #[.int .i64 s, .slice A l.length c]] w fun e w' => e = .returned (.string ⟨#[]⟩) ∧ Below w.heap.size w w' := by
  have hB : Below w.heap.size w (w.alloc (.cells #[.int .i64 s, .slice A l.length c] 24)) := (Below.refl _ _).alloc (Nat.le_refl _) _
  have hbk := Blk.new w 24 #[.int .i64 s, .slice A l.length c]
  obtain ⟨w0, hw0⟩ : ∃ w0, w.alloc (.cells #[.int .i64 s, .slice A l.length c] 24) = w0 := ⟨_, rfl⟩
  rw [hw0] at hB hbk
  have hright := right_any s l A c w0 ((hI.below hB).more hB.size) hl false (by simp [hR])
  obtain ⟨n, hn⟩ : ∃ n, l.length = n := ⟨_, rfl⟩
  rw [hn] at hright hw0 hbk ⊢
  have q0 := hbk.cell 0
  have q1 := hbk.cell 1
  simp at q0 q1
  have HB := Lib.hid hB; clear hB
  have HRT := Lib.hid hright; clear hright
  clear hI hR hl hn
  go_enter Tryz.func31, Tryz.ntmps31
  go_wp2_with fail
  (with_reducible refine HRT.out.mono ?_)
  rintro e w1 ⟨rfl, hb1⟩
  go_wp2_with fail
  go_ret
  exact ⟨rfl, HB.out.trans (hb1.mono HB.out.size)⟩

end Go.Proofs.YtbhdkgieahnojaaGreatDoor

namespace Go.Proofs.YtbhdkgieahnojaaGreatDoor
open Go.RowKit

/-- Is it an int? -/
def isI (z : Int) : Prop := -9223372036854775808 ≤ z ∧ z ≤ 9223372036854775807
instance (z : Int) : Decidable (isI z) := inferInstanceAs (Decidable (_ ∧ _))
def IntV (z : Int) : Value := if isI z then .tuple #[.int .i64 z, .bool true] else .tuple #[.int .i64 0, .bool false]
theorem IntV.yes {z : Int} (h : isI z) : IntV z = .tuple #[.int .i64 z, .bool true] := if_pos h
theorem IntV.no {z : Int} (h : ¬ isI z) : IntV z = .tuple #[.int .i64 0, .bool false] := if_neg h

theorem pw3 : pw 3 = 1152921504606846976 := by decide
theorem pw4 : pw 4 = 1208925819614629174706176 := by decide

theorem four {l : List Int} (hd : Dig l) (hl : l.length = 4) : pw 3 * l.getD 3 0 ≤ nv l ∧ nv l < pw 3 * (l.getD 3 0 + 1) := by
  have h1 := nv_take_succ (l := l) (k := 3) (by omega)
  rw [nv_take_all l (by omega)] at h1
  have h2 : Dig (l.take 3) := fun d h => hd d (List.mem_of_mem_take h)
  have h3 := h2.nv_lt
  have h4 := h2.nv_nonneg
  rw [List.length_take, hl] at h3
  have h5 : min 3 4 = 3 := rfl
  rw [h5] at h3
  rw [pw3] at *
  omega

theorem back_neg {z X : Int} (h : z < 0) (hX : X = -z) (h63 : X ≤ 9223372036854775808) : IntKind.i64.wrap (IntKind.u64.wrap (-X)) = z := by
  rw [IntKind.wrap_i64]
  show _ = _
  have : IntKind.u64.wrap (-X) = (-X) % 18446744073709551616 := rfl
  rw [this]
  omega

set_option maxRecDepth 100000 in
set_option maxHeartbeats 1000000 in
theorem int_any (z : Int) (v : Value) (w : World) (h : BV w w.heap.size v z) (hz : ab z < pw 60) :
    Calls Tryz.prog 20 #[v] w fun e w' => e = .returned (IntV z) ∧ Below w.heap.size w w' := by
  obtain ⟨A, c, rfl, hlc, hcm, hI⟩ := h
  have hX0 : 0 ≤ ab z := ab_nonneg z
  have hl60 : (D (ab z)).length ≤ 60 := (D_len_le hX0).2 hz
  have hR : RightP (sgn z) (D (ab z)) := ⟨z, rfl, rfl, hz⟩
  have hB : Below w.heap.size w (w.alloc (.cells #[.int .i64 (sgn z), .slice A (D (ab z)).length c] 24)) := (Below.refl _ _).alloc (Nat.le_refl _) _
  have hsz0 : w.heap.size < (w.alloc (.cells #[.int .i64 (sgn z), .slice A (D (ab z)).length c] 24)).heap.size := by simp
  have hbk := Blk.new w 24 #[.int .i64 (sgn z), .slice A (D (ab z)).length c]
  obtain ⟨w0, hw0⟩ : ∃ w0, w.alloc (.cells #[.int .i64 (sgn z), .slice A (D (ab z)).length c] 24) = w0 := ⟨_, rfl⟩
  rw [hw0] at hB hsz0 hbk
  have hI0 : IntsAt w0.heap.size w0 A (D (ab z)) := (hI.below hB).more hB.size
  have hright := right_any (sgn z) (D (ab z)) A c w0 hI0 (by omega) true (by simp [hR])
  have hj : nv (D (ab z)) < 18446744073709551616 → ∀ w1, Below w0.heap.size w0 w1 → _ := fun hlt w1 hb => join_any A c (D (ab z)) w1 ((hI0.below hb).more hb.size) (Nrm_D _).1 (by omega) hlt
  rw [nv_D hX0] at hj
  have h4 := four (l := D (ab z)) (Nrm_D _).1
  rw [nv_D hX0, pw3] at h4
  have h5 := D_len_lt hX0 (k := 4)
  rw [pw4] at h5
  have h3 := D_len_le hX0 (k := 3)
  rw [pw3] at h3
  have hc3 := fun (w1 : World) (hb : Below w0.heap.size w0 w1) (h : 3 < (D (ab z)).length) => (hI0.below hb) 3 h
  obtain ⟨d3, hd3⟩ : ∃ d3, (D (ab z)).getD 3 0 = d3 := ⟨_, rfl⟩
  rw [hd3] at hc3 h4
  obtain ⟨n, hn⟩ : ∃ n, (D (ab z)).length = n := ⟨_, rfl⟩
  rw [hn] at hright hj hw0 hbk h4 h5 h3 hc3 hlc hl60 ⊢
  have hc0 : ∀ w', Below w0.heap.size w0 w' → w'.cell? ⟨w.heap.size, 0, none⟩ = some (.int .i64 (sgn z)) ∧ w'.cell? ⟨w.heap.size, 1, none⟩ = some (.slice A n c) := fun w' hb => by
    have hb2 := hbk.below hb hsz0
    exact ⟨hb2.cell 0, hb2.cell 1⟩
  have q0 := hbk.cell 0
  have q1 := hbk.cell 1
  simp at q0 q1
  have hab : ab z = if z < 0 then -z else z := by unfold ab; split <;> omega
  obtain ⟨X, hX⟩ : ∃ X, ab z = X := ⟨_, rfl⟩
  rw [hX] at hj h4 h5 h3 hab hX0
  have HC := Lib.hid hc0; clear hc0
  have HB := Lib.hid hB; clear hB
  have HRT := Lib.hid hright; clear hright
  have HJ := Lib.hid hj; clear hj
  have HC3 := Lib.hid hc3; clear hc3
  have hs := sgn_lt z
  clear hI hI0 hR hz hl60 hlc hcm hn hd3 hX hbk
  by_cases hn4 : 4 < n
  · have hno : ¬ isI z := by
      unfold isI
      have := h5.1 hn4
      split at hab <;> omega
    have hn4' : (4 : Int) < (n : Int) := by omega
    rw [IntV.no hno]
    clear h3 h4 h5 hab hs hno
    go_enter Tryz.func20, Tryz.ntmps20
    go_wp2_with fail
    (with_reducible refine HRT.out.mono ?_)
    rintro e w1 ⟨rfl, hb1⟩
    have q1' := (HC.out _ hb1).2
    go_wp2_with fail
    refine bodyPost_ret (v := .tuple #[.int .i64 0, .bool false]) (by simp [results, Tryz.results20, go_sem]) rfl ?_
    exact ⟨rfl, HB.out.trans (hb1.mono HB.out.size)⟩
  · by_cases hne : n = 4
    · subst hne
      have h4 := h4 rfl
      by_cases h8 : 8 < d3
      · have hno : ¬ isI z := by
          unfold isI
          split at hab <;> omega
        rw [IntV.no hno]
        clear h3 h4 h5 hab hs hno
        go_enter Tryz.func20, Tryz.ntmps20
        go_wp2_with fail
        (with_reducible refine HRT.out.mono ?_)
        rintro e w1 ⟨rfl, hb1⟩
        have q1' := (HC.out _ hb1).2
        obtain ⟨b, off, rfl, hbB, hcell⟩ := HC3.out _ hb1 (by omega)
        go_wp2_with fail
        refine bodyPost_ret (v := .tuple #[.int .i64 0, .bool false]) (by simp [results, Tryz.results20, go_sem]) rfl ?_
        exact ⟨rfl, HB.out.trans (hb1.mono HB.out.size)⟩
      · have h5 := h5
        have hlt : X < 18446744073709551616 := by omega
        have hjj := HJ.out hlt
        have HJJ := Lib.hid hjj; clear hjj
        by_cases hz0 : z < 0
        · rw [if_pos hz0] at hab
          have hs2 : decide (sgn z < 0) = true := by rw [hs]; simp [hz0]
          by_cases hm : X ≤ 9223372036854775808
          · have hbn := back_neg hz0 hab hm
            have hyes : isI z := by unfold isI; omega
            rw [IntV.yes hyes]
            clear hz0 hab
            clear h3 h4 h5 hs hyes hlt
            go_enter Tryz.func20, Tryz.ntmps20
            go_wp2_with fail
            (with_reducible refine HRT.out.mono ?_)
            rintro e w1 ⟨rfl, hb1⟩
            have q1' := (HC.out _ hb1).2
            obtain ⟨b, off, rfl, hbB, hcell⟩ := HC3.out _ hb1 (by omega)
            go_wp2_with fail
            (with_reducible refine (HJJ.out _ hb1).mono ?_)
            rintro e w2 ⟨rfl, hb2⟩
            have hb02 := hb1.trans (hb2.mono hb1.size)
            have q0' := (HC.out _ hb02).1
            go_wp2_with fail
            refine bodyPost_ret (v := .tuple #[.int .i64 z, .bool true]) (by simp [results, Tryz.results20, go_sem]) rfl ?_
            exact ⟨rfl, HB.out.trans (hb02.mono HB.out.size)⟩
          · have hm2 : ¬ X ≤ 9223372036854775807 := by omega
            have hyes : ¬ isI z := by unfold isI; omega
            rw [IntV.no hyes]
            clear hz0 hab
            clear h3 h4 h5 hs hyes hlt
            go_enter Tryz.func20, Tryz.ntmps20
            go_wp2_with fail
            (with_reducible refine HRT.out.mono ?_)
            rintro e w1 ⟨rfl, hb1⟩
            have q1' := (HC.out _ hb1).2
            obtain ⟨b, off, rfl, hbB, hcell⟩ := HC3.out _ hb1 (by omega)
            go_wp2_with fail
            (with_reducible refine (HJJ.out _ hb1).mono ?_)
            rintro e w2 ⟨rfl, hb2⟩
            have hb02 := hb1.trans (hb2.mono hb1.size)
            have q0' := (HC.out _ hb02).1
            go_wp2_with fail
            refine bodyPost_ret (v := .tuple #[.int .i64 0, .bool false]) (by simp [results, Tryz.results20, go_sem]) rfl ?_
            exact ⟨rfl, HB.out.trans (hb02.mono HB.out.size)⟩
        · rw [if_neg hz0] at hab
          have hs2 : decide (sgn z < 0) = false := by rw [hs]; simp [hz0]
          have hab := hab.symm; subst hab
          by_cases hm : z ≤ 9223372036854775807
          · have hbn : IntKind.i64.wrap z = z := by rw [IntKind.wrap_i64]; omega
            have hyes : isI z := by unfold isI; omega
            rw [IntV.yes hyes]
            clear hz0
            clear h3 h4 h5 hs hyes hlt
            go_enter Tryz.func20, Tryz.ntmps20
            go_wp2_with fail
            (with_reducible refine HRT.out.mono ?_)
            rintro e w1 ⟨rfl, hb1⟩
            have q1' := (HC.out _ hb1).2
            obtain ⟨b, off, rfl, hbB, hcell⟩ := HC3.out _ hb1 (by omega)
            go_wp2_with fail
            (with_reducible refine (HJJ.out _ hb1).mono ?_)
            rintro e w2 ⟨rfl, hb2⟩
            have hb02 := hb1.trans (hb2.mono hb1.size)
            have q0' := (HC.out _ hb02).1
            go_wp2_with fail
            refine bodyPost_ret (v := .tuple #[.int .i64 z, .bool true]) (by simp [results, Tryz.results20, go_sem]) rfl ?_
            exact ⟨rfl, HB.out.trans (hb02.mono HB.out.size)⟩
          · skip
            have hyes : ¬ isI z := by unfold isI; omega
            rw [IntV.no hyes]
            clear hz0
            clear h3 h4 h5 hs hyes hlt
            go_enter Tryz.func20, Tryz.ntmps20
            go_wp2_with fail
            (with_reducible refine HRT.out.mono ?_)
            rintro e w1 ⟨rfl, hb1⟩
            have q1' := (HC.out _ hb1).2
            obtain ⟨b, off, rfl, hbB, hcell⟩ := HC3.out _ hb1 (by omega)
            go_wp2_with fail
            (with_reducible refine (HJJ.out _ hb1).mono ?_)
            rintro e w2 ⟨rfl, hb2⟩
            have hb02 := hb1.trans (hb2.mono hb1.size)
            have q0' := (HC.out _ hb02).1
            go_wp2_with fail
            refine bodyPost_ret (v := .tuple #[.int .i64 0, .bool false]) (by simp [results, Tryz.results20, go_sem]) rfl ?_
            exact ⟨rfl, HB.out.trans (hb02.mono HB.out.size)⟩
    · have hn3 : n ≤ 3 := by omega
      have hX3 := h3.1 hn3
      have hne' : ¬ (n : Int) = 4 := by omega
      have hn4' : ¬ (4 : Int) < (n : Int) := by omega
      have hlt : X < 18446744073709551616 := by omega
      have hjj := HJ.out hlt
      have HJJ := Lib.hid hjj; clear hjj
      by_cases hz0 : z < 0
      · rw [if_pos hz0] at hab
        have hs2 : decide (sgn z < 0) = true := by rw [hs]; simp [hz0]
        by_cases hm : X ≤ 9223372036854775808
        · have hbn := back_neg hz0 hab hm
          have hyes : isI z := by unfold isI; omega
          rw [IntV.yes hyes]
          clear hz0 hab
          clear h3 h4 h5 hs hyes hlt
          go_enter Tryz.func20, Tryz.ntmps20
          go_wp2_with fail
          (with_reducible refine HRT.out.mono ?_)
          rintro e w1 ⟨rfl, hb1⟩
          have q1' := (HC.out _ hb1).2
          go_wp2_with fail
          (with_reducible refine (HJJ.out _ hb1).mono ?_)
          rintro e w2 ⟨rfl, hb2⟩
          have hb02 := hb1.trans (hb2.mono hb1.size)
          have q0' := (HC.out _ hb02).1
          go_wp2_with fail
          refine bodyPost_ret (v := .tuple #[.int .i64 z, .bool true]) (by simp [results, Tryz.results20, go_sem]) rfl ?_
          exact ⟨rfl, HB.out.trans (hb02.mono HB.out.size)⟩
        · exfalso; omega
      · rw [if_neg hz0] at hab
        have hs2 : decide (sgn z < 0) = false := by rw [hs]; simp [hz0]
        have hab := hab.symm; subst hab
        by_cases hm : z ≤ 9223372036854775807
        · have hbn : IntKind.i64.wrap z = z := by rw [IntKind.wrap_i64]; omega
          have hyes : isI z := by unfold isI; omega
          rw [IntV.yes hyes]
          clear hz0
          clear h3 h4 h5 hs hyes hlt
          go_enter Tryz.func20, Tryz.ntmps20
          go_wp2_with fail
          (with_reducible refine HRT.out.mono ?_)
          rintro e w1 ⟨rfl, hb1⟩
          have q1' := (HC.out _ hb1).2
          go_wp2_with fail
          (with_reducible refine (HJJ.out _ hb1).mono ?_)
          rintro e w2 ⟨rfl, hb2⟩
          have hb02 := hb1.trans (hb2.mono hb1.size)
          have q0' := (HC.out _ hb02).1
          go_wp2_with fail
          refine bodyPost_ret (v := .tuple #[.int .i64 z, .bool true]) (by simp [results, Tryz.results20, go_sem]) rfl ?_
          exact ⟨rfl, HB.out.trans (hb02.mono HB.out.size)⟩
        · exfalso; omega

end Go.Proofs.YtbhdkgieahnojaaGreatDoor

namespace Go.Proofs.YtbhdkgieahnojaaGreatDoor
open Go.RowKit

theorem sgn_cases (z : Int) : (z < 0 ∧ sgn z = -1 ∧ ab z = -z) ∨ (z = 0 ∧ sgn z = 0 ∧ ab z = 0) ∨ (0 < z ∧ sgn z = 1 ∧ ab z = z) := by
  unfold sgn ab
  rcases Int.lt_trichotomy z 0 with h | h | h
  · exact .inl ⟨h, if_pos h, by omega⟩
  · subst h; exact .inr (.inl ⟨rfl, rfl, rfl⟩)
  · exact .inr (.inr ⟨h, by rw [if_neg (by omega), if_neg (by omega)], by omega⟩)

theorem sum_opp_lt {x t : Int} (h : sgn x * sgn t < 0) (hl : ab x < ab t) : 1 * ab t + -1 * ab x = ab (x + t) ∧ sgn t = sgn (x + t) := by
  rcases sgn_cases x with ⟨a1, a2, a3⟩ | ⟨a1, a2, a3⟩ | ⟨a1, a2, a3⟩ <;> rcases sgn_cases t with ⟨b1, b2, b3⟩ | ⟨b1, b2, b3⟩ | ⟨b1, b2, b3⟩ <;> rcases sgn_cases (x + t) with ⟨c1, c2, c3⟩ | ⟨c1, c2, c3⟩ | ⟨c1, c2, c3⟩ <;> (rw [a2, b2] at h; rw [a3, b3] at hl; rw [a3, b2, b3, c2, c3]; omega)
theorem sum_else {x t : Int} (hx : x ≠ 0) (h : 0 ≤ sgn x * sgn t ∨ ¬ ab x < ab t) : 1 * ab x + sgn x * sgn t * ab t = ab (x + t) ∧ (x + t ≠ 0 → sgn x = sgn (x + t)) := by
  rcases sgn_cases x with ⟨a1, a2, a3⟩ | ⟨a1, a2, a3⟩ | ⟨a1, a2, a3⟩ <;> rcases sgn_cases t with ⟨b1, b2, b3⟩ | ⟨b1, b2, b3⟩ | ⟨b1, b2, b3⟩ <;> rcases sgn_cases (x + t) with ⟨c1, c2, c3⟩ | ⟨c1, c2, c3⟩ | ⟨c1, c2, c3⟩ <;> (rw [a2, b2, a3, b3] at h; rw [a2, a3, b2, b3, c2, c3]; omega)

theorem compare_neg {a b : Int} (h : a < b) : Lib.compareInt a b = -1 := by unfold Lib.compareInt; rw [if_pos h]
theorem compare_nn {a b : Int} (h : ¬ a < b) : 0 ≤ Lib.compareInt a b := by unfold Lib.compareInt; rw [if_neg h]; split <;> omega

set_option maxRecDepth 100000 in
set_option maxHeartbeats 2000000 in
theorem sum_any (x y t : Int) (vx vy : Value) (w : World) (hx : BV w w.heap.size vx x) (hy : BV w w.heap.size vy y) (hx6 : ab x < pw 60) (hy6 : ab y < pw 60) (hyt : ab y = ab t) :
    Calls Tryz.prog 66 #[vx, vy, .int .i64 (sgn t)] w (ResP (x + t) w) := by
  obtain ⟨A1, c1, rfl, hc1, hm1, hI1⟩ := hx
  obtain ⟨A2, c2, rfl, hc2, hm2, hI2⟩ := hy
  have hl1 := len60 hx6
  have hl2 := len60 hy6
  have hr1 := fun (w' : World) (hb : Below w.heap.size w w') => right_any (sgn x) (D (ab x)) A1 c1 w' ((hI1.below hb).more hb.size) (by omega) true (by simp [rightP_of hx6])
  have hr2 := fun (w' : World) (hb : Below w.heap.size w w') => right_any (sgn y) (D (ab y)) A2 c2 w' ((hI2.below hb).more hb.size) (by omega) true (by simp [rightP_of hy6])
  have hclo := fun (w' : World) (hb : Below w.heap.size w w') => clone_any (D (ab y)) A2 c2 w' ((hI2.below hb).more hb.size) (by omega)
  have hor := fun (w' : World) (hb : Below w.heap.size w w') => order_any (ab x) (ab y) A1 A2 c1 c2 w' w'.heap.size ((hI1.below hb).more hb.size) ((hI2.below hb).more hb.size) (ab_nonneg _) (ab_nonneg _) (by omega) (by omega)
  have hcb1 := fun (p q : Int) (w' : World) (hb : Below w.heap.size w w') => combine_any (D (ab x)) (D (ab y)) A1 A2 c1 c2 p q w' ((hI1.below hb).more hb.size) ((hI2.below hb).more hb.size) (Dig_D _) (Dig_D _) (by omega) (by omega)
  have hcb2 := fun (p q : Int) (w' : World) (hb : Below w.heap.size w w') => combine_any (D (ab y)) (D (ab x)) A2 A1 c2 c1 p q w' ((hI2.below hb).more hb.size) ((hI1.below hb).more hb.size) (Dig_D _) (Dig_D _) (by omega) (by omega)
  rw [nv_D (ab_nonneg _), nv_D (ab_nonneg _)] at hcb1 hcb2
  obtain ⟨n1, hn1⟩ : ∃ n, (D (ab x)).length = n := ⟨_, rfl⟩
  obtain ⟨n2, hn2⟩ : ∃ n, (D (ab y)).length = n := ⟨_, rfl⟩
  rw [hn1] at hr1 hor hcb1 hcb2 hl1 ⊢
  rw [hn2] at hr2 hclo hor hcb1 hcb2 hl2 ⊢
  rw [hyt] at hclo hor hcb1 hcb2 hn2
  have HN2 := Lib.hid hn2; clear hn2
  have hsy := sgn_bd y
  have hsx := sgn_bd x
  have hst := sgn_bd t
  obtain ⟨sy, hsye⟩ : ∃ s, sgn y = s := ⟨_, rfl⟩
  rw [hsye] at hr2 hsy ⊢
  have HR1 := Lib.hid hr1; clear hr1
  have HR2 := Lib.hid hr2; clear hr2
  have HCLO := Lib.hid hclo; clear hclo
  have HOR := Lib.hid hor; clear hor
  have HCB1 := Lib.hid hcb1; clear hcb1
  have HCB2 := Lib.hid hcb2; clear hcb2
  have hat := ab_nonneg t
  have hax := ab_nonneg x
  clear hn1 hsye hI1 hI2 hx6 hy6 hc1 hc2 hyt
  have hms : -1 ≤ sgn x * sgn t ∧ sgn x * sgn t ≤ 1 := by
    rcases sgn_cases x with ⟨_, a, _⟩ | ⟨_, a, _⟩ | ⟨_, a, _⟩ <;> rw [a] <;> omega
  have front : ∀ (sx st : Int) (z : Int), -1 ≤ sx → sx ≤ 1 → -1 ≤ st → st ≤ 1 → sx = sgn x → st = sgn t → z = x + t →
      Calls Tryz.prog 66 #[.agg #[.int .i64 sx, .slice A1 n1 c1], .agg #[.int .i64 sy, .slice A2 n2 c2], .int .i64 st] w (ResP z w) := by
    intro sx st z hx1 hx2 ht1 ht2 hsxe hste hz
    have HSX := Lib.hid hsxe
    have HST := Lib.hid hste
    have HZ := Lib.hid hz
    clear hz
    rw [← hsxe, ← hste] at hms
    rw [← hsxe] at HR1
    clear hsxe hste hsx hst
    by_cases hx0 : sx = 0
    · have hx00 : x = 0 := by have := HSX.out; rcases sgn_cases x with ⟨_, a, _⟩ | ⟨h, a, _⟩ | ⟨_, a, _⟩ <;> omega
      have hzt : z = t := by rw [HZ.out, hx00]; omega
      have hft := fun A c w' => fitting_any z st A c w' (fun _ => by rw [hzt]; exact HST.out)
      rw [hzt] at hft ⊢
      have HFT := Lib.hid hft; clear hft hzt hx00
      subst hx0
      go_enter Tryz.func66, Tryz.ntmps66
      go_wp2_with fail
      obtain ⟨w1, hw1, hb1, k1, k2, k3, hsz⟩ := boxes3 w #[.int .i64 0, .slice A1 n1 c1] #[.int .i64 sy, .slice A2 n2 c2] #[.int .i64 0, .slice none 0 0]
      rw [← hw1]
      clear hw1
      refine (HR1.out w1 hb1).mono ?_
      rintro e w2 ⟨rfl, hb2⟩
      have k1 := k1.below hb2 k1.lt
      have k2 := k2.below hb2 k2.lt
      have k3 := k3.below hb2 k3.lt
      have hs2' := hb2.size
      have hb2 := hb1.trans (hb2.mono hb1.size)
      have j1 : w2.cell? ⟨w.heap.size + 1, 0, none⟩ = some (.int .i64 sy) := k2.cell 0
      have j2 : w2.cell? ⟨w.heap.size + 1, 1, none⟩ = some (.slice A2 n2 c2) := k2.cell 1
      go_wp2_with fail
      refine (HR2.out w2 hb2).mono ?_
      rintro e w3 ⟨rfl, hb3⟩
      clear j1 j2
      have k1 := k1.below hb3 k1.lt
      have k2 := k2.below hb3 k2.lt
      have k3 := k3.below hb3 k3.lt
      have hs3' := hb3.size
      have hb3 := hb2.trans (hb3.mono hb2.size)
      clear hb1 hb2 HR1 HR2
      obtain ⟨g, hg⟩ : ∃ g, w.heap.size + 1 + 1 = g := ⟨_, rfl⟩
      have hgw : w.heap.size + 1 < g ∧ g < w3.heap.size := by have := k3.lt; omega
      rw [hg] at k3 ⊢
      clear hg hsz hs2' hs3'
      have j0 : w3.cell? ⟨w.heap.size, 0, none⟩ = some (.int .i64 0) := k1.cell 0
      have j1 : w3.cell? ⟨w.heap.size, 1, none⟩ = some (.slice A1 n1 c1) := k1.cell 1
      have j2 : w3.cell? ⟨w.heap.size + 1, 0, none⟩ = some (.int .i64 sy) := k2.cell 0
      have j3 : w3.cell? ⟨w.heap.size + 1, 1, none⟩ = some (.slice A2 n2 c2) := k2.cell 1
      go_wp2_with fail
      (with_reducible refine (HCLO.out w3 hb3).mono ?_)
      rintro e w4 ⟨v4, rfl, hown4, hb4⟩
      obtain ⟨A4, c4, rfl, hc4, hm4, hI4⟩ := hown4.at_
      go_wp2_with fail
      (with_reducible refine (HFT.out _ _ _).mono ?_)
      rintro e w5 ⟨r, rfl, hr, hb5⟩
      have HR := Lib.hid hr
      obtain ⟨s', A', n', c', rfl⟩ := hr.form
      clear hr
      have hB5 : Below w3.heap.size w3 w5 := hb4.trans (hb5.mono hb4.size)
      have hbk := k3.below hB5 (by omega)
      have q0 : w5.cell? ⟨g, 0, none⟩ = some (.int .i64 0) := hbk.cell 0
      have q1 : w5.cell? ⟨g, 1, none⟩ = some (.slice none 0 0) := hbk.cell 1
      have f0 := hbk.frozen 0
      have f1 := hbk.frozen 1
      have hB6 := ((hB5.mono (B' := g) (by omega)).setCell (p := ⟨g, 0, none⟩) (Nat.le_refl _) (.int .i64 s')).setCell (p := ⟨g, 1, none⟩) (Nat.le_refl _) (.slice A' n' c')
      have hbs := hbk.set2 (.int .i64 s') (.slice A' n' c')
      have hd0 := hbs.cell 0
      have hd1 := hbs.cell 1
      simp at hd0 hd1
      go_wp2_with fail
      refine bodyPost_ret (v := .tuple #[.agg #[.int .i64 s', .slice A' n' c'], .int .i64 (fite t)]) (by simp [results, Tryz.results66, go_sem, hd0, hd1]) rfl ?_
      have hof := (hown4.below hb5).far2 (g := g) (by first | omega | (simp; omega)) (.int .i64 s') (.slice A' n' c')
      exact ⟨_, rfl, HR.out.fito (hof.mono (by have := hb3.size; first | omega | (simp; omega))), hb3.trans (hB6.mono (by omega))⟩
    · have hx00 : x ≠ 0 := by have := HSX.out; rcases sgn_cases x with ⟨_, a, _⟩ | ⟨h, a, _⟩ | ⟨_, a, _⟩ <;> omega
      have hsx0 : (sx == 0) = false := by simpa using hx0
      by_cases hp : sx * st < 0 ∧ ab x < ab t
      · have hlt := hp.2
        have hp := hp.1
        have ⟨hv, hsg⟩ := sum_opp_lt (x := x) (t := t) (by rw [← HSX.out, ← HST.out]; exact hp) hlt
        have hcb := fun (w' : World) (hb : Below w.heap.size w w') => HCB2.out 1 (-1) w' hb (by omega) (by omega) (by omega) (by omega) (by rw [hv]; exact ab_nonneg _)
        have hft := fun A c w' => fitting_any z st A c w' (fun _ => by rw [HZ.out, ← hsg]; exact HST.out)
        rw [hv, ← HZ.out] at hcb
        have HCB := Lib.hid hcb; clear hcb hv hsg
        have HFT := Lib.hid hft; clear hft
        have hcmp := compare_neg hlt
        have hor := fun (w' : World) (hb : Below w.heap.size w w') => HOR.out w' hb
        rw [hcmp] at hor
        have HO := Lib.hid hor; clear hor hcmp HOR
        go_enter Tryz.func66, Tryz.ntmps66
        go_wp2_with fail
        obtain ⟨w1, hw1, hb1, k1, k2, k3, hsz⟩ := boxes3 w #[.int .i64 sx, .slice A1 n1 c1] #[.int .i64 sy, .slice A2 n2 c2] #[.int .i64 0, .slice none 0 0]
        rw [← hw1]
        clear hw1
        refine (HR1.out w1 hb1).mono ?_
        rintro e w2 ⟨rfl, hb2⟩
        have k1 := k1.below hb2 k1.lt
        have k2 := k2.below hb2 k2.lt
        have k3 := k3.below hb2 k3.lt
        have hs2' := hb2.size
        have hb2 := hb1.trans (hb2.mono hb1.size)
        have j1 : w2.cell? ⟨w.heap.size + 1, 0, none⟩ = some (.int .i64 sy) := k2.cell 0
        have j2 : w2.cell? ⟨w.heap.size + 1, 1, none⟩ = some (.slice A2 n2 c2) := k2.cell 1
        go_wp2_with fail
        refine (HR2.out w2 hb2).mono ?_
        rintro e w3 ⟨rfl, hb3⟩
        clear j1 j2
        have k1 := k1.below hb3 k1.lt
        have k2 := k2.below hb3 k2.lt
        have k3 := k3.below hb3 k3.lt
        have hs3' := hb3.size
        have hb3 := hb2.trans (hb3.mono hb2.size)
        clear hb1 hb2 HR1 HR2
        obtain ⟨g, hg⟩ : ∃ g, w.heap.size + 1 + 1 = g := ⟨_, rfl⟩
        have hgw : w.heap.size + 1 < g ∧ g < w3.heap.size := by have := k3.lt; omega
        rw [hg] at k3 ⊢
        clear hg hsz hs2' hs3'
        have j0 : w3.cell? ⟨w.heap.size, 0, none⟩ = some (.int .i64 sx) := k1.cell 0
        have j1 : w3.cell? ⟨w.heap.size, 1, none⟩ = some (.slice A1 n1 c1) := k1.cell 1
        have j2 : w3.cell? ⟨w.heap.size + 1, 0, none⟩ = some (.int .i64 sy) := k2.cell 0
        have j3 : w3.cell? ⟨w.heap.size + 1, 1, none⟩ = some (.slice A2 n2 c2) := k2.cell 1
        go_wp2_with fail
        (with_reducible refine (HO.out w3 hb3).mono ?_)
        rintro e w3' ⟨rfl, q, rfl⟩
        go_wp2_with fail
        (with_reducible refine (HCB.out _ (below_drewN hb3 _)).mono ?_)
        rintro e w4 ⟨v4, rfl, hown4, hb4⟩
        have hB4 : Below w3.heap.size w3 w4 := ⟨hb4.os, hb4.tape, hb4.output, hb4.size, hb4.block⟩
        obtain ⟨A4, c4, rfl, hc4, hm4, hI4⟩ := hown4.at_
        go_wp2_with fail
        (with_reducible refine (HFT.out _ _ _).mono ?_)
        rintro e w5 ⟨r, rfl, hr, hb5⟩
        have HR := Lib.hid hr
        obtain ⟨s', A', n', c', rfl⟩ := hr.form
        clear hr
        have hB5 : Below w3.heap.size w3 w5 := hB4.trans (hb5.mono hB4.size)
        have hbk := k3.below hB5 (by omega)
        have q0 : w5.cell? ⟨g, 0, none⟩ = some (.int .i64 0) := hbk.cell 0
        have q1 : w5.cell? ⟨g, 1, none⟩ = some (.slice none 0 0) := hbk.cell 1
        have f0 := hbk.frozen 0
        have f1 := hbk.frozen 1
        have hB6 := ((hB5.mono (B' := g) (by omega)).setCell (p := ⟨g, 0, none⟩) (Nat.le_refl _) (.int .i64 s')).setCell (p := ⟨g, 1, none⟩) (Nat.le_refl _) (.slice A' n' c')
        have hbs := hbk.set2 (.int .i64 s') (.slice A' n' c')
        have hd0 := hbs.cell 0
        have hd1 := hbs.cell 1
        simp at hd0 hd1
        go_wp2_with fail
        refine bodyPost_ret (v := .tuple #[.agg #[.int .i64 s', .slice A' n' c'], .int .i64 (fite z)]) (by simp [results, Tryz.results66, go_sem, hd0, hd1]) rfl ?_
        have hof := (hown4.below hb5).far2 (g := g) (by first | omega | (simp; omega)) (.int .i64 s') (.slice A' n' c')
        exact ⟨_, rfl, HR.out.fito (hof.mono (by have := hb3.size; first | omega | (simp; omega))), hb3.trans (hB6.mono (by omega))⟩
      · by_cases hneg : sx * st < 0
        · have hnl : ¬ ab x < ab t := fun h => hp ⟨hneg, h⟩
          clear hp
          have ⟨hv, hsg⟩ := sum_else (x := x) (t := t) hx00 (by rw [← HSX.out, ← HST.out]; exact (.inr hnl))
          rw [← HSX.out, ← HST.out] at hv
          have hcb := fun (w' : World) (hb : Below w.heap.size w w') => HCB1.out 1 (sx * st) w' hb (by omega) (by omega) (by omega) (by omega) (by rw [hv]; exact ab_nonneg _)
          have hft := fun A c w' => fitting_any z sx A c w' (fun h => by rw [HZ.out] at h ⊢; rw [← hsg h]; exact HSX.out)
          rw [hv, ← HZ.out] at hcb
          have HCB := Lib.hid hcb; clear hcb hv hsg
          have HFT := Lib.hid hft; clear hft
          have hcmp := compare_nn hnl
          obtain ⟨cz, hcz⟩ : ∃ z, Lib.compareInt (ab x) (ab t) = z := ⟨_, rfl⟩
          have hor := fun (w' : World) (hb : Below w.heap.size w w') => HOR.out w' hb
          rw [hcz] at hor hcmp
          have HO := Lib.hid hor; clear hor hcz HOR
          go_enter Tryz.func66, Tryz.ntmps66
          go_wp2_with fail
          obtain ⟨w1, hw1, hb1, k1, k2, k3, hsz⟩ := boxes3 w #[.int .i64 sx, .slice A1 n1 c1] #[.int .i64 sy, .slice A2 n2 c2] #[.int .i64 0, .slice none 0 0]
          rw [← hw1]
          clear hw1
          refine (HR1.out w1 hb1).mono ?_
          rintro e w2 ⟨rfl, hb2⟩
          have k1 := k1.below hb2 k1.lt
          have k2 := k2.below hb2 k2.lt
          have k3 := k3.below hb2 k3.lt
          have hs2' := hb2.size
          have hb2 := hb1.trans (hb2.mono hb1.size)
          have j1 : w2.cell? ⟨w.heap.size + 1, 0, none⟩ = some (.int .i64 sy) := k2.cell 0
          have j2 : w2.cell? ⟨w.heap.size + 1, 1, none⟩ = some (.slice A2 n2 c2) := k2.cell 1
          go_wp2_with fail
          refine (HR2.out w2 hb2).mono ?_
          rintro e w3 ⟨rfl, hb3⟩
          clear j1 j2
          have k1 := k1.below hb3 k1.lt
          have k2 := k2.below hb3 k2.lt
          have k3 := k3.below hb3 k3.lt
          have hs3' := hb3.size
          have hb3 := hb2.trans (hb3.mono hb2.size)
          clear hb1 hb2 HR1 HR2
          obtain ⟨g, hg⟩ : ∃ g, w.heap.size + 1 + 1 = g := ⟨_, rfl⟩
          have hgw : w.heap.size + 1 < g ∧ g < w3.heap.size := by have := k3.lt; omega
          rw [hg] at k3 ⊢
          clear hg hsz hs2' hs3'
          have j0 : w3.cell? ⟨w.heap.size, 0, none⟩ = some (.int .i64 sx) := k1.cell 0
          have j1 : w3.cell? ⟨w.heap.size, 1, none⟩ = some (.slice A1 n1 c1) := k1.cell 1
          have j2 : w3.cell? ⟨w.heap.size + 1, 0, none⟩ = some (.int .i64 sy) := k2.cell 0
          have j3 : w3.cell? ⟨w.heap.size + 1, 1, none⟩ = some (.slice A2 n2 c2) := k2.cell 1
          have e0 : ∀ W' : World, Below g w3 W' → W'.cell? ⟨w.heap.size, 0, none⟩ = some (.int .i64 sx) ∧ W'.cell? ⟨w.heap.size, 1, none⟩ = some (.slice A1 n1 c1) ∧ W'.cell? ⟨w.heap.size + 1, 0, none⟩ = some (.int .i64 sy) ∧ W'.cell? ⟨w.heap.size + 1, 1, none⟩ = some (.slice A2 n2 c2) ∧ Below g w3 W' := fun W' hW =>
            ⟨(k1.below hW (by omega)).cell 0, (k1.below hW (by omega)).cell 1, (k2.below hW (by omega)).cell 0, (k2.below hW (by omega)).cell 1, hW⟩
          have E0 := Lib.hid e0; clear e0
          have hwm : IntKind.i64.wrap (sx * st) = sx * st := IntWalk.i64_in _ (by omega)
          go_wp2_with fail
          (with_reducible refine (HO.out w3 hb3).mono ?_)
          rintro e w3' ⟨rfl, q, rfl⟩
          have hB00 : Below g w3 (w3.drewN q) := below_drewN (Below.refl _ _) q
          have hB01 : Below w3.heap.size w3 (w3.drewN q) := below_drewN (Below.refl _ _) q
          go_wp2_with fail
          go_region_held3 (fun W' => W'.cell? ⟨w.heap.size, 0, none⟩ = some (.int .i64 sx) ∧ W'.cell? ⟨w.heap.size, 1, none⟩ = some (.slice A1 n1 c1) ∧ W'.cell? ⟨w.heap.size + 1, 0, none⟩ = some (.int .i64 sy) ∧ W'.cell? ⟨w.heap.size + 1, 1, none⟩ = some (.slice A2 n2 c2) ∧ Below g w3 W')
            (first | exact E0.out _ (by assumption) | exact E0.out _ ⟨rfl, rfl, rfl, Nat.le_refl _, fun _ _ => rfl⟩)
            (first
              | (go_at_call 77; refine (HCB.out (w3.drewN (q + 1)) ⟨hb3.os, hb3.tape, hb3.output, hb3.size, hb3.block⟩).mono ?_; rintro e w4 ⟨v4, rfl, hown4, hb4⟩; have hB4 : Below w3.heap.size w3 w4 := ⟨hb4.os, hb4.tape, hb4.output, hb4.size, hb4.block⟩; have hB4g : Below g w3 w4 := hB4.mono (by omega); obtain ⟨A4, c4, rfl, hc4, hm4, hI4⟩ := hown4.at_)
              | (go_at_call 72; refine (HFT.out _ _ _).mono ?_; rintro e w5 ⟨r, rfl, hr, hb5⟩; have HR := Lib.hid hr; obtain ⟨s', A', n', c', rfl⟩ := hr.form; clear hr; have hB5 : Below w3.heap.size w3 w5 := hB4.trans (hb5.mono hB4.size); have hB5g : Below g w3 w5 := hB5.mono (by omega); have hbk := k3.below hB5 (by omega); have q0 : w5.cell? ⟨g, 0, none⟩ = some (.int .i64 0) := hbk.cell 0; have q1 : w5.cell? ⟨g, 1, none⟩ = some (.slice none 0 0) := hbk.cell 1; have f0 := hbk.frozen 0; have f1 := hbk.frozen 1; have hB6 := (hB5g.setCell (p := ⟨g, 0, none⟩) (Nat.le_refl _) (.int .i64 s')).setCell (p := ⟨g, 1, none⟩) (Nat.le_refl _) (.slice A' n' c')))
          have hbs := hbk.set2 (.int .i64 s') (.slice A' n' c')
          have hd0 := hbs.cell 0
          have hd1 := hbs.cell 1
          simp at hd0 hd1
          go_wp2_with fail
          refine bodyPost_ret (v := .tuple #[.agg #[.int .i64 s', .slice A' n' c'], .int .i64 (fite z)]) (by simp [results, Tryz.results66, go_sem, hd0, hd1]) rfl ?_
          have hof := (hown4.below hb5).far2 (g := g) (by first | omega | (simp; omega)) (.int .i64 s') (.slice A' n' c')
          exact ⟨_, rfl, HR.out.fito (hof.mono (by have := hb3.size; first | omega | (simp; omega))), hb3.trans (hB6.mono (by omega))⟩
        · have hnn : 0 ≤ sx * st := by omega
          clear hp
          have ⟨hv, hsg⟩ := sum_else (x := x) (t := t) hx00 (by rw [← HSX.out, ← HST.out]; exact (.inl hnn))
          rw [← HSX.out, ← HST.out] at hv
          have hcb := fun (w' : World) (hb : Below w.heap.size w w') => HCB1.out 1 (sx * st) w' hb (by omega) (by omega) (by omega) (by omega) (by rw [hv]; exact ab_nonneg _)
          have hft := fun A c w' => fitting_any z sx A c w' (fun h => by rw [HZ.out] at h ⊢; rw [← hsg h]; exact HSX.out)
          rw [hv, ← HZ.out] at hcb
          have HCB := Lib.hid hcb; clear hcb hv hsg
          have HFT := Lib.hid hft; clear hft
          clear HOR
          go_enter Tryz.func66, Tryz.ntmps66
          go_wp2_with fail
          obtain ⟨w1, hw1, hb1, k1, k2, k3, hsz⟩ := boxes3 w #[.int .i64 sx, .slice A1 n1 c1] #[.int .i64 sy, .slice A2 n2 c2] #[.int .i64 0, .slice none 0 0]
          rw [← hw1]
          clear hw1
          refine (HR1.out w1 hb1).mono ?_
          rintro e w2 ⟨rfl, hb2⟩
          have k1 := k1.below hb2 k1.lt
          have k2 := k2.below hb2 k2.lt
          have k3 := k3.below hb2 k3.lt
          have hs2' := hb2.size
          have hb2 := hb1.trans (hb2.mono hb1.size)
          have j1 : w2.cell? ⟨w.heap.size + 1, 0, none⟩ = some (.int .i64 sy) := k2.cell 0
          have j2 : w2.cell? ⟨w.heap.size + 1, 1, none⟩ = some (.slice A2 n2 c2) := k2.cell 1
          go_wp2_with fail
          refine (HR2.out w2 hb2).mono ?_
          rintro e w3 ⟨rfl, hb3⟩
          clear j1 j2
          have k1 := k1.below hb3 k1.lt
          have k2 := k2.below hb3 k2.lt
          have k3 := k3.below hb3 k3.lt
          have hs3' := hb3.size
          have hb3 := hb2.trans (hb3.mono hb2.size)
          clear hb1 hb2 HR1 HR2
          obtain ⟨g, hg⟩ : ∃ g, w.heap.size + 1 + 1 = g := ⟨_, rfl⟩
          have hgw : w.heap.size + 1 < g ∧ g < w3.heap.size := by have := k3.lt; omega
          rw [hg] at k3 ⊢
          clear hg hsz hs2' hs3'
          have j0 : w3.cell? ⟨w.heap.size, 0, none⟩ = some (.int .i64 sx) := k1.cell 0
          have j1 : w3.cell? ⟨w.heap.size, 1, none⟩ = some (.slice A1 n1 c1) := k1.cell 1
          have j2 : w3.cell? ⟨w.heap.size + 1, 0, none⟩ = some (.int .i64 sy) := k2.cell 0
          have j3 : w3.cell? ⟨w.heap.size + 1, 1, none⟩ = some (.slice A2 n2 c2) := k2.cell 1
          have e0 : ∀ W' : World, Below g w3 W' → W'.cell? ⟨w.heap.size, 0, none⟩ = some (.int .i64 sx) ∧ W'.cell? ⟨w.heap.size, 1, none⟩ = some (.slice A1 n1 c1) ∧ W'.cell? ⟨w.heap.size + 1, 0, none⟩ = some (.int .i64 sy) ∧ W'.cell? ⟨w.heap.size + 1, 1, none⟩ = some (.slice A2 n2 c2) ∧ Below g w3 W' := fun W' hW =>
            ⟨(k1.below hW (by omega)).cell 0, (k1.below hW (by omega)).cell 1, (k2.below hW (by omega)).cell 0, (k2.below hW (by omega)).cell 1, hW⟩
          have E0 := Lib.hid e0; clear e0
          have hwm : IntKind.i64.wrap (sx * st) = sx * st := IntWalk.i64_in _ (by omega)
          have hB00 : Below g w3 w3.drew := (Below.refl _ _).drew
          have hB01 : Below w3.heap.size w3 w3.drew := (Below.refl _ _).drew
          go_wp2_with fail
          go_region_held3 (fun W' => W'.cell? ⟨w.heap.size, 0, none⟩ = some (.int .i64 sx) ∧ W'.cell? ⟨w.heap.size, 1, none⟩ = some (.slice A1 n1 c1) ∧ W'.cell? ⟨w.heap.size + 1, 0, none⟩ = some (.int .i64 sy) ∧ W'.cell? ⟨w.heap.size + 1, 1, none⟩ = some (.slice A2 n2 c2) ∧ Below g w3 W')
            (first | exact E0.out _ (by assumption) | exact E0.out _ ⟨rfl, rfl, rfl, Nat.le_refl _, fun _ _ => rfl⟩)
            (first
              | (go_at_call 77; refine (HCB.out w3.drew ⟨hb3.os, hb3.tape, hb3.output, hb3.size, hb3.block⟩).mono ?_; rintro e w4 ⟨v4, rfl, hown4, hb4⟩; have hB4 : Below w3.heap.size w3 w4 := ⟨hb4.os, hb4.tape, hb4.output, hb4.size, hb4.block⟩; have hB4g : Below g w3 w4 := hB4.mono (by omega); obtain ⟨A4, c4, rfl, hc4, hm4, hI4⟩ := hown4.at_)
              | (go_at_call 72; refine (HFT.out _ _ _).mono ?_; rintro e w5 ⟨r, rfl, hr, hb5⟩; have HR := Lib.hid hr; obtain ⟨s', A', n', c', rfl⟩ := hr.form; clear hr; have hB5 : Below w3.heap.size w3 w5 := hB4.trans (hb5.mono hB4.size); have hB5g : Below g w3 w5 := hB5.mono (by omega); have hbk := k3.below hB5 (by omega); have q0 : w5.cell? ⟨g, 0, none⟩ = some (.int .i64 0) := hbk.cell 0; have q1 : w5.cell? ⟨g, 1, none⟩ = some (.slice none 0 0) := hbk.cell 1; have f0 := hbk.frozen 0; have f1 := hbk.frozen 1; have hB6 := (hB5g.setCell (p := ⟨g, 0, none⟩) (Nat.le_refl _) (.int .i64 s')).setCell (p := ⟨g, 1, none⟩) (Nat.le_refl _) (.slice A' n' c')))
          have hbs := hbk.set2 (.int .i64 s') (.slice A' n' c')
          have hd0 := hbs.cell 0
          have hd1 := hbs.cell 1
          simp at hd0 hd1
          go_wp2_with fail
          refine bodyPost_ret (v := .tuple #[.agg #[.int .i64 s', .slice A' n' c'], .int .i64 (fite z)]) (by simp [results, Tryz.results66, go_sem, hd0, hd1]) rfl ?_
          have hof := (hown4.below hb5).far2 (g := g) (by first | omega | (simp; omega)) (.int .i64 s') (.slice A' n' c')
          exact ⟨_, rfl, HR.out.fito (hof.mono (by have := hb3.size; first | omega | (simp; omega))), hb3.trans (hB6.mono (by omega))⟩
  exact front (sgn x) (sgn t) (x + t) hsx.1 hsx.2 hst.1 hst.2 rfl rfl rfl

end Go.Proofs.YtbhdkgieahnojaaGreatDoor
