/- Walks: back to an int. -/
import Derived.Test.YtofndidngjglmaaDoorDe
import Derived.Test.YtofndidngjglmaaDoorJ
namespace Go.Proofs.YtofndidngjglmaaDoor
open Go.RowKit

/-- Is it an int? -/
def isI (z : Int) : Prop := -9223372036854775808 ≤ z ∧ z ≤ 9223372036854775807
instance (z : Int) : Decidable (isI z) := inferInstanceAs (Decidable (_ ∧ _))
def IntV (z : Int) : Value := if isI z then .tuple #[.int .i64 z, .bool true] else .tuple #[.int .i64 0, .bool false]
theorem IntV.yes {z : Int} (h : isI z) : IntV z = .tuple #[.int .i64 z, .bool true] := if_pos h
theorem IntV.no {z : Int} (h : ¬ isI z) : IntV z = .tuple #[.int .i64 0, .bool false] := if_neg h

theorem pw3 : pw 3 = 1152921504606846976 := by decide
theorem pw4 : pw 4 = 1208925819614629174706176 := by decide

theorem four {l : List Int} (hd : Dig l) (hl : l.length = 4) : pw 3 * l.getD 3 0 ≤ nv l ∧ nv l < pw 3 * (l.getD 3 0 + 1) := by
  have h1 := nv_take_succ (l := l) (k := 3) (by omega)
  rw [nv_take_all l (by omega)] at h1
  have h2 : Dig (l.take 3) := fun d h => hd d (List.mem_of_mem_take h)
  have h3 := h2.nv_lt
  have h4 := h2.nv_nonneg
  rw [List.length_take, hl] at h3
  have h5 : min 3 4 = 3 := rfl
  rw [h5] at h3
  rw [pw3] at *
  omega

theorem back_neg {z X : Int} (h : z < 0) (hX : X = -z) (h63 : X ≤ 9223372036854775808) : IntKind.i64.wrap (IntKind.u64.wrap (-X)) = z := by
  rw [IntKind.wrap_i64]
  show _ = _
  have : IntKind.u64.wrap (-X) = (-X) % 18446744073709551616 := rfl
  rw [this]
  omega

set_option maxRecDepth 100000 in
set_option maxHeartbeats 1000000 in
theorem int_any (z : Int) (v : Value) (w : World) (h : BV w w.heap.size v z) (hz : ab z < pw 60) :
    Calls Tryd.prog 22 #[v] w fun e w' => e = .returned (IntV z) ∧ Below w.heap.size w w' := by
  obtain ⟨A, c, rfl, hlc, hcm, hI⟩ := h
  have hX0 : 0 ≤ ab z := ab_nonneg z
  have hl60 : (D (ab z)).length ≤ 60 := (D_len_le hX0).2 hz
  have hR : RightP (sgn z) (D (ab z)) := ⟨z, rfl, rfl, hz⟩
  have hB : Below w.heap.size w (w.alloc (.cells #[.int .i64 (sgn z), .slice A (D (ab z)).length c] 24)) := (Below.refl _ _).alloc (Nat.le_refl _) _
  have hsz0 : w.heap.size < (w.alloc (.cells #[.int .i64 (sgn z), .slice A (D (ab z)).length c] 24)).heap.size := by simp
  have hbk := Blk.new w 24 #[.int .i64 (sgn z), .slice A (D (ab z)).length c]
  obtain ⟨w0, hw0⟩ : ∃ w0, w.alloc (.cells #[.int .i64 (sgn z), .slice A (D (ab z)).length c] 24) = w0 := ⟨_, rfl⟩
  rw [hw0] at hB hsz0 hbk
  have hI0 : IntsAt w0.heap.size w0 A (D (ab z)) := (hI.below hB).more hB.size
  have hright := right_any (sgn z) (D (ab z)) A c w0 hI0 (by omega) true (by simp [hR])
  have hj : nv (D (ab z)) < 18446744073709551616 → ∀ w1, Below w0.heap.size w0 w1 → _ := fun hlt w1 hb => join_any A c (D (ab z)) w1 ((hI0.below hb).more hb.size) (Nrm_D _).1 (by omega) hlt
  rw [nv_D hX0] at hj
  have h4 := four (l := D (ab z)) (Nrm_D _).1
  rw [nv_D hX0, pw3] at h4
  have h5 := D_len_lt hX0 (k := 4)
  rw [pw4] at h5
  have h3 := D_len_le hX0 (k := 3)
  rw [pw3] at h3
  have hc3 := fun (w1 : World) (hb : Below w0.heap.size w0 w1) (h : 3 < (D (ab z)).length) => (hI0.below hb) 3 h
  obtain ⟨d3, hd3⟩ : ∃ d3, (D (ab z)).getD 3 0 = d3 := ⟨_, rfl⟩
  rw [hd3] at hc3 h4
  obtain ⟨n, hn⟩ : ∃ n, (D (ab z)).length = n := ⟨_, rfl⟩
  rw [hn] at hright hj hw0 hbk h4 h5 h3 hc3 hlc hl60 ⊢
  have hc0 : ∀ w', Below w0.heap.size w0 w' → w'.cell? ⟨w.heap.size, 0, none⟩ = some (.int .i64 (sgn z)) ∧ w'.cell? ⟨w.heap.size, 1, none⟩ = some (.slice A n c) := fun w' hb => by
    have hb2 := hbk.below hb hsz0
    exact ⟨hb2.cell 0, hb2.cell 1⟩
  have q0 := hbk.cell 0
  have q1 := hbk.cell 1
  simp at q0 q1
  have hab : ab z = if z < 0 then -z else z := by unfold ab; split <;> omega
  obtain ⟨X, hX⟩ : ∃ X, ab z = X := ⟨_, rfl⟩
  rw [hX] at hj h4 h5 h3 hab hX0
  have HC := Lib.hid hc0; clear hc0
  have HB := Lib.hid hB; clear hB
  have HRT := Lib.hid hright; clear hright
  have HJ := Lib.hid hj; clear hj
  have HC3 := Lib.hid hc3; clear hc3
  have hs := sgn_lt z
  clear hI hI0 hR hz hl60 hlc hcm hn hd3 hX hbk
  by_cases hn4 : 4 < n
  · have hno : ¬ isI z := by
      unfold isI
      have := h5.1 hn4
      split at hab <;> omega
    have hn4' : (4 : Int) < (n : Int) := by omega
    rw [IntV.no hno]
    clear h3 h4 h5 hab hs hno
    go_enter Tryd.func22, Tryd.ntmps22
    go_wp2_with fail
    (with_reducible refine HRT.out.mono ?_)
    rintro e w1 ⟨rfl, hb1⟩
    have q1' := (HC.out _ hb1).2
    go_wp2_with fail
    refine bodyPost_ret (v := .tuple #[.int .i64 0, .bool false]) (by simp [results, Tryd.results22, go_sem]) rfl ?_
    exact ⟨rfl, HB.out.trans (hb1.mono HB.out.size)⟩
  · by_cases hne : n = 4
    · subst hne
      have h4 := h4 rfl
      by_cases h8 : 8 < d3
      · have hno : ¬ isI z := by
          unfold isI
          split at hab <;> omega
        rw [IntV.no hno]
        clear h3 h4 h5 hab hs hno
        go_enter Tryd.func22, Tryd.ntmps22
        go_wp2_with fail
        (with_reducible refine HRT.out.mono ?_)
        rintro e w1 ⟨rfl, hb1⟩
        have q1' := (HC.out _ hb1).2
        obtain ⟨b, off, rfl, hbB, hcell⟩ := HC3.out _ hb1 (by omega)
        go_wp2_with fail
        refine bodyPost_ret (v := .tuple #[.int .i64 0, .bool false]) (by simp [results, Tryd.results22, go_sem]) rfl ?_
        exact ⟨rfl, HB.out.trans (hb1.mono HB.out.size)⟩
      · have h5 := h5
        have hlt : X < 18446744073709551616 := by omega
        have hjj := HJ.out hlt
        have HJJ := Lib.hid hjj; clear hjj
        by_cases hz0 : z < 0
        · rw [if_pos hz0] at hab
          have hs2 : decide (sgn z < 0) = true := by rw [hs]; simp [hz0]
          by_cases hm : X ≤ 9223372036854775808
          · have hbn := back_neg hz0 hab hm
            have hyes : isI z := by unfold isI; omega
            rw [IntV.yes hyes]
            clear hz0 hab
            clear h3 h4 h5 hs hyes hlt
            go_enter Tryd.func22, Tryd.ntmps22
            go_wp2_with fail
            (with_reducible refine HRT.out.mono ?_)
            rintro e w1 ⟨rfl, hb1⟩
            have q1' := (HC.out _ hb1).2
            obtain ⟨b, off, rfl, hbB, hcell⟩ := HC3.out _ hb1 (by omega)
            go_wp2_with fail
            (with_reducible refine (HJJ.out _ hb1).mono ?_)
            rintro e w2 ⟨rfl, hb2⟩
            have hb02 := hb1.trans (hb2.mono hb1.size)
            have q0' := (HC.out _ hb02).1
            go_wp2_with fail
            refine bodyPost_ret (v := .tuple #[.int .i64 z, .bool true]) (by simp [results, Tryd.results22, go_sem]) rfl ?_
            exact ⟨rfl, HB.out.trans (hb02.mono HB.out.size)⟩
          · have hm2 : ¬ X ≤ 9223372036854775807 := by omega
            have hyes : ¬ isI z := by unfold isI; omega
            rw [IntV.no hyes]
            clear hz0 hab
            clear h3 h4 h5 hs hyes hlt
            go_enter Tryd.func22, Tryd.ntmps22
            go_wp2_with fail
            (with_reducible refine HRT.out.mono ?_)
            rintro e w1 ⟨rfl, hb1⟩
            have q1' := (HC.out _ hb1).2
            obtain ⟨b, off, rfl, hbB, hcell⟩ := HC3.out _ hb1 (by omega)
            go_wp2_with fail
            (with_reducible refine (HJJ.out _ hb1).mono ?_)
            rintro e w2 ⟨rfl, hb2⟩
            have hb02 := hb1.trans (hb2.mono hb1.size)
            have q0' := (HC.out _ hb02).1
            go_wp2_with fail
            refine bodyPost_ret (v := .tuple #[.int .i64 0, .bool false]) (by simp [results, Tryd.results22, go_sem]) rfl ?_
            exact ⟨rfl, HB.out.trans (hb02.mono HB.out.size)⟩
        · rw [if_neg hz0] at hab
          have hs2 : decide (sgn z < 0) = false := by rw [hs]; simp [hz0]
          have hab := hab.symm; subst hab
          by_cases hm : z ≤ 9223372036854775807
          · have hbn : IntKind.i64.wrap z = z := by rw [IntKind.wrap_i64]; omega
            have hyes : isI z := by unfold isI; omega
            rw [IntV.yes hyes]
            clear hz0
            clear h3 h4 h5 hs hyes hlt
            go_enter Tryd.func22, Tryd.ntmps22
            go_wp2_with fail
            (with_reducible refine HRT.out.mono ?_)
            rintro e w1 ⟨rfl, hb1⟩
            have q1' := (HC.out _ hb1).2
            obtain ⟨b, off, rfl, hbB, hcell⟩ := HC3.out _ hb1 (by omega)
            go_wp2_with fail
            (with_reducible refine (HJJ.out _ hb1).mono ?_)
            rintro e w2 ⟨rfl, hb2⟩
            have hb02 := hb1.trans (hb2.mono hb1.size)
            have q0' := (HC.out _ hb02).1
            go_wp2_with fail
            refine bodyPost_ret (v := .tuple #[.int .i64 z, .bool true]) (by simp [results, Tryd.results22, go_sem]) rfl ?_
            exact ⟨rfl, HB.out.trans (hb02.mono HB.out.size)⟩
          · skip
            have hyes : ¬ isI z := by unfold isI; omega
            rw [IntV.no hyes]
            clear hz0
            clear h3 h4 h5 hs hyes hlt
            go_enter Tryd.func22, Tryd.ntmps22
            go_wp2_with fail
            (with_reducible refine HRT.out.mono ?_)
            rintro e w1 ⟨rfl, hb1⟩
            have q1' := (HC.out _ hb1).2
            obtain ⟨b, off, rfl, hbB, hcell⟩ := HC3.out _ hb1 (by omega)
            go_wp2_with fail
            (with_reducible refine (HJJ.out _ hb1).mono ?_)
            rintro e w2 ⟨rfl, hb2⟩
            have hb02 := hb1.trans (hb2.mono hb1.size)
            have q0' := (HC.out _ hb02).1
            go_wp2_with fail
            refine bodyPost_ret (v := .tuple #[.int .i64 0, .bool false]) (by simp [results, Tryd.results22, go_sem]) rfl ?_
            exact ⟨rfl, HB.out.trans (hb02.mono HB.out.size)⟩
    · have hn3 : n ≤ 3 := by omega
      have hX3 := h3.1 hn3
      have hne' : ¬ (n : Int) = 4 := by omega
      have hn4' : ¬ (4 : Int) < (n : Int) := by omega
      have hlt : X < 18446744073709551616 := by omega
      have hjj := HJ.out hlt
      have HJJ := Lib.hid hjj; clear hjj
      by_cases hz0 : z < 0
      · rw [if_pos hz0] at hab
        have hs2 : decide (sgn z < 0) = true := by rw [hs]; simp [hz0]
        by_cases hm : X ≤ 9223372036854775808
        · have hbn := back_neg hz0 hab hm
          have hyes : isI z := by unfold isI; omega
          rw [IntV.yes hyes]
          clear hz0 hab
          clear h3 h4 h5 hs hyes hlt
          go_enter Tryd.func22, Tryd.ntmps22
          go_wp2_with fail
          (with_reducible refine HRT.out.mono ?_)
          rintro e w1 ⟨rfl, hb1⟩
          have q1' := (HC.out _ hb1).2
          go_wp2_with fail
          (with_reducible refine (HJJ.out _ hb1).mono ?_)
          rintro e w2 ⟨rfl, hb2⟩
          have hb02 := hb1.trans (hb2.mono hb1.size)
          have q0' := (HC.out _ hb02).1
          go_wp2_with fail
          refine bodyPost_ret (v := .tuple #[.int .i64 z, .bool true]) (by simp [results, Tryd.results22, go_sem]) rfl ?_
          exact ⟨rfl, HB.out.trans (hb02.mono HB.out.size)⟩
        · exfalso; omega
      · rw [if_neg hz0] at hab
        have hs2 : decide (sgn z < 0) = false := by rw [hs]; simp [hz0]
        have hab := hab.symm; subst hab
        by_cases hm : z ≤ 9223372036854775807
        · have hbn : IntKind.i64.wrap z = z := by rw [IntKind.wrap_i64]; omega
          have hyes : isI z := by unfold isI; omega
          rw [IntV.yes hyes]
          clear hz0
          clear h3 h4 h5 hs hyes hlt
          go_enter Tryd.func22, Tryd.ntmps22
          go_wp2_with fail
          (with_reducible refine HRT.out.mono ?_)
          rintro e w1 ⟨rfl, hb1⟩
          have q1' := (HC.out _ hb1).2
          go_wp2_with fail
          (with_reducible refine (HJJ.out _ hb1).mono ?_)
          rintro e w2 ⟨rfl, hb2⟩
          have hb02 := hb1.trans (hb2.mono hb1.size)
          have q0' := (HC.out _ hb02).1
          go_wp2_with fail
          refine bodyPost_ret (v := .tuple #[.int .i64 z, .bool true]) (by simp [results, Tryd.results22, go_sem]) rfl ?_
          exact ⟨rfl, HB.out.trans (hb02.mono HB.out.size)⟩
        · exfalso; omega

end Go.Proofs.YtofndidngjglmaaDoor
