/- Walks: the claim's isSound; label's Check. -/
import Derived.Test.YteiojobgjdfdpaaSg
namespace Go.Proofs.Yteiojobgjdfdpaa
open Go.RowKit Go.Sort

set_option maxRecDepth 100000 in
set_option maxHeartbeats 8000000 in
theorem isSound_any (l : List Am) (A : Option Addr) (m c src : Nat) (t : Int) (b : Bool) (L : Option Addr) (n c2 : Nat) (lab : List Lb) (w : World) (hl : l.length = m) (hA : ArcsAt w.heap.size w A l) (hR : RRight n l) (hn : lab.length = n) (hL : LbsAt w.heap.size w L lab) (hs : src < n) (r : Bool) (hr : r = true ↔ SoundP l src t b lab) :
    Calls Try.prog 60 #[clv A m c src t b L n c2] w fun e w' => e = .returned (.bool r) ∧ Below w.heap.size w w' := by
  have hn2 : n ≤ 2000 := by have := hR.2.1; omega
  have hr0 : ¬ SoundP l src t b lab → r = false := fun h => by
    cases r with
    | false => rfl
    | true => exact absurd (hr.1 rfl) h
  have HR := Lib.hid (And.intro hr hr0); clear hr hr0
  have HA := Lib.hid (And.intro hl (And.intro hA (And.intro hR (And.intro hn (And.intro hL hs)))))
  clear hl hA hR hn hL hs
  have hB0 := (Below.refl w.heap.size w).alloc (Nat.le_refl _) (.cells #[.slice A m c, .int .i64 src, .int .i64 t, .bool b, .slice L n c2] 79)
  have hk0 := Blk.new w 79 #[.slice A m c, .int .i64 src, .int .i64 t, .bool b, .slice L n c2]
  have hsz : w.heap.size < (w.alloc (.cells #[.slice A m c, .int .i64 src, .int .i64 t, .bool b, .slice L n c2] 79)).heap.size := by simp
  go_enter Try.func60, Try.ntmps60
  go_wp2_with fail
  obtain ⟨W0, hW0⟩ : ∃ W, w.alloc (.cells #[.slice A m c, .int .i64 src, .int .i64 t, .bool b, .slice L n c2] 79) = W := ⟨_, rfl⟩
  rw [hW0] at hB0 hk0 hsz ⊢
  clear hW0
  have H0 := Lib.hid (And.intro hB0 hk0)
  clear hB0 hk0
  go_loopw [7] (fun iv wr => ∃ (i : Nat), iv = .int .i64 i ∧ i ≤ n ∧ Hid (Below W0.heap.size W0 wr) ∧ Hid (∀ k, k < i → FollP l src t b lab k)) (fun iv _ => n - (intOf iv).toNat)
  case atStart => exact ⟨0, rfl, by omega, Lib.hid (Below.refl _ _), Lib.hid (fun k hk => by omega)⟩
  case round =>
    obtain ⟨i, rfl, hi, hB, hK⟩ := hrel
    have hBw : Below w.heap.size w wr := H0.out.1.trans (hB.out.mono (by omega))
    have hkr := H0.out.2.below hB.out H0.out.2.lt
    have hkl := hkr.lt
    have a0 : wr.cell? ⟨w.heap.size, 0, none⟩ = some (.slice A m c) := hkr.cell 0
    have a1 : wr.cell? ⟨w.heap.size, 1, none⟩ = some (.int .i64 src) := hkr.cell 1
    have a2 : wr.cell? ⟨w.heap.size, 2, none⟩ = some (.int .i64 t) := hkr.cell 2
    have a3 : wr.cell? ⟨w.heap.size, 3, none⟩ = some (.bool b) := hkr.cell 3
    have a4 : wr.cell? ⟨w.heap.size, 4, none⟩ = some (.slice L n c2) := hkr.cell 4
    have hAr := (HA.out.2.1.below hBw).more hBw.size
    have hLr := (HA.out.2.2.2.2.1.below hBw).more hBw.size
    by_cases hgo : i < n
    · obtain ⟨r2, hr2⟩ : ∃ r : Bool, r = true ↔ FollP l src t b lab i := ⟨Classical.propDecidable (FollP l src t b lab i) |> fun d => @decide _ d, by simp⟩
      have HF := Lib.hid (follows_any l A m c src t b L n c2 lab i wr HA.out.1 hAr HA.out.2.2.1 HA.out.2.2.2.1 hLr hgo r2 hr2)
      clear hAr hLr
      cases r2 with
      | false =>
        have hrf := HR.out.2 (fun h => by
          have := hr2.2 (h.fo i (by have := HA.out.2.2.2.1; omega))
          cases this)
        subst hrf
        have HBw := Lib.hid hBw
        clear hr2 hBw
        go_wp2_with fail
        refine HF.out.mono ?_
        rintro e w3 ⟨rfl, hb3⟩
        have HB3 := Lib.hid (HBw.out.trans (hb3.mono HBw.out.size))
        clear hb3
        go_wp2_with fail
        go_ret
        exact ⟨by rfl, HB3.out⟩
      | true =>
        have HKn : Hid (∀ k, k < i + 1 → FollP l src t b lab k) := Lib.hid (fun k hk => by
          by_cases e : k < i
          · exact hK.out k e
          · have : k = i := by omega
            subst this
            exact hr2.1 rfl)
        clear hr2 hBw
        go_wp2_with fail
        refine HF.out.mono ?_
        rintro e w3 ⟨rfl, hb3⟩
        have HB3 := Lib.hid (hB.out.trans (hb3.mono hB.out.size))
        clear hb3
        go_wp2_with fail
        go_roundw
        case rel => exact ⟨i + 1, rfl, by omega, HB3, HKn⟩
        case measure => simp [intOf]; omega
    · have e : i = n := by omega
      subst e
      have HC := Lib.hid (comes_any l A m c src t b L i c2 lab wr HA.out.1 hAr HA.out.2.2.1 HA.out.2.2.2.1 hLr HA.out.2.2.2.2.2 hK.out r (HR.out.1.trans ⟨fun h v hv hre => h.ba v (by have := HA.out.2.2.2.1; omega) hre, fun h => ⟨fun v hv => hK.out v (by have := HA.out.2.2.2.1; omega), fun v hv hre => h v (by have := HA.out.2.2.2.1; omega) hre⟩⟩))
      have HBw := Lib.hid hBw
      clear hAr hLr hBw
      go_wp2_with fail
      refine HC.out.mono ?_
      rintro e w3 ⟨rfl, hb3⟩
      have HB3 := Lib.hid (HBw.out.trans (hb3.mono HBw.out.size))
      clear hb3
      go_wp2_with fail
      go_ret
      exact ⟨by rfl, HB3.out⟩

/-- What Check returns. -/
noncomputable def checkO (n : Int) (l : List Am) (src t : Int) (b : Bool) (lab : List Lb) : Int := open Classical in
  if RRight n l ∧ (0 ≤ src ∧ src < n) ∧ IsT t then (if (lab.length : Int) = n then (if SoundP l src.toNat t b lab ∧ TightP l b lab then 0 else 23) else 2) else 1

set_option maxRecDepth 100000 in
set_option maxHeartbeats 8000000 in
theorem check_any (n : Int) (l : List Am) (A : Option Addr) (m c : Nat) (src t : Int) (b : Bool) (L : Option Addr) (k c2 : Nat) (lab : List Lb) (w : World) (hl : l.length = m) (hA : ArcsAt w.heap.size w A l) (hk : lab.length = k) (hL : LbsAt w.heap.size w L lab) (z : Int) (hz : checkO n l src t b lab = z) :
    Calls Try.prog 30 #[.int .i64 n, .slice A m c, .int .i64 src, .int .i64 t, .bool b, .slice L k c2] w fun e w' => e = .returned (.int .i64 z) ∧ Below w.heap.size w w' := by
  obtain ⟨r1, hr1⟩ : ∃ r : Bool, r = true ↔ RRight n l := ⟨Classical.propDecidable (RRight n l) |> fun d => @decide _ d, by simp⟩
  obtain ⟨r2, hr2⟩ : ∃ r, decide (0 ≤ src ∧ src < n) = r := ⟨_, rfl⟩
  obtain ⟨r3, hr3⟩ : ∃ r, decide (IsT t) = r := ⟨_, rfl⟩
  have HA := Lib.hid (And.intro hl (And.intro hA (And.intro hk hL)))
  have HRr := Lib.hid (fun w' h => rr_any n l A c m w' hl h r1 hr1)
  have HN := Lib.hid (fun w => lIndex_any src n w r2 hr2.symm)
  have HTt := Lib.hid (fun w => lTime_any t w r3 hr3.symm)
  have HZ := Lib.hid (And.intro hz (And.intro hr1 (And.intro hr2 hr3)))
  have hout : ¬ (r1 = true ∧ r2 = true ∧ r3 = true) → z = 1 := fun h => by
    rw [← hz]; unfold checkO
    exact if_neg (fun hh => h ⟨hr1.2 hh.1, by rw [← hr2]; exact decide_eq_true hh.2.1, by rw [← hr3]; exact decide_eq_true hh.2.2⟩)
  have HOUT := Lib.hid hout
  clear hl hA hk hL hz hr1 hr2 hr3 hout
  go_enter Try.func30, Try.ntmps30
  go_wp2_with fail
  refine (HRr.out w HA.out.2.1).mono ?_
  rintro e w1 ⟨rfl, hb1⟩
  have HB1 := Lib.hid hb1; clear hb1
  cases r1 with
  | false =>
    obtain rfl := HOUT.out (by simp)
    go_wp2_with fail
    go_ret
    exact ⟨by rfl, HB1.out⟩
  | true =>
    go_wp2_with fail
    refine (HN.out w1).mono ?_
    rintro e w2 ⟨rfl, rfl⟩
    cases r2 with
    | false =>
      obtain rfl := HOUT.out (by simp)
      go_wp2_with fail
      go_ret
      exact ⟨by rfl, HB1.out⟩
    | true =>
      go_wp2_with fail
      refine (HTt.out w1).mono ?_
      rintro e w2 ⟨rfl, rfl⟩
      cases r3 with
      | false =>
        obtain rfl := HOUT.out (by simp)
        go_wp2_with fail
        go_ret
        exact ⟨by rfl, HB1.out⟩
      | true =>
        have hR : RRight n l := HZ.out.2.1.1 (by simp)
        have hS := of_decide_eq_true HZ.out.2.2.1
        have hT : IsT t := of_decide_eq_true HZ.out.2.2.2
        have hn0 := hR.1
        have hn1 := hR.2.1
        obtain ⟨n0, rfl⟩ : ∃ n0 : Nat, n = (n0 : Int) := ⟨n.toNat, by omega⟩
        obtain ⟨s0, rfl⟩ : ∃ s0 : Nat, src = (s0 : Int) := ⟨src.toNat, by omega⟩
        have hin : z = if (lab.length : Int) = (n0 : Int) then (open Classical in if SoundP l s0 t b lab ∧ TightP l b lab then 0 else 23) else 2 := by
          rw [← HZ.out.1]; unfold checkO
          rw [if_pos ⟨hR, hS, hT⟩, Int.toNat_natCast]
        have HR := Lib.hid hR
        have hsn : s0 < n0 := by omega
        clear hR hS hT hn0
        by_cases hkn : k = n0
        · subst hkn
          rw [if_pos (by rw [HA.out.2.2.1])] at hin
          obtain ⟨r4, hr4⟩ : ∃ r : Bool, r = true ↔ SoundP l s0 t b lab := ⟨Classical.propDecidable (SoundP l s0 t b lab) |> fun d => @decide _ d, by simp⟩
          obtain ⟨r5, hr5⟩ : ∃ r : Bool, r = true ↔ TightP l b lab := ⟨Classical.propDecidable (TightP l b lab) |> fun d => @decide _ d, by simp⟩
          have hz4 : ¬ (r4 = true ∧ r5 = true) → z = 23 := fun h => by rw [hin]; exact if_neg (fun hh => h ⟨hr4.2 hh.1, hr5.2 hh.2⟩)
          have hz5 : r4 = true → r5 = true → z = 0 := fun h h2 => by rw [hin]; exact if_pos ⟨hr4.1 h, hr5.1 h2⟩
          have HZ4 := Lib.hid (And.intro hz4 hz5)
          have hbox := (HB1.out.trans ((Below.refl w1.heap.size w1).alloc (Nat.le_refl _) (.cells #[.slice A m c, .int .i64 s0, .int .i64 t, .bool b, .slice L k c2] 79)|>.mono HB1.out.size))
          have hbk := Blk.new w1 79 #[.slice A m c, .int .i64 s0, .int .i64 t, .bool b, .slice L k c2]
          obtain ⟨W2, hW2⟩ : ∃ W, w1.alloc (.cells #[.slice A m c, .int .i64 s0, .int .i64 t, .bool b, .slice L k c2] 79) = W := ⟨_, rfl⟩
          rw [hW2] at hbox hbk
          have HS := Lib.hid (isSound_any l A m c s0 t b L k c2 lab W2 HA.out.1 ((HA.out.2.1.below hbox).more hbox.size) HR.out HA.out.2.2.1 ((HA.out.2.2.2.below hbox).more hbox.size) hsn r4 hr4)
          have HTi := Lib.hid (fun W (hb : Below W2.heap.size W2 W) => isTight_any l A m c s0 t b L k c2 lab W HA.out.1 ((HA.out.2.1.below (hbox.trans (hb.mono hbox.size))).more (hbox.trans (hb.mono hbox.size)).size) HR.out HA.out.2.2.1 ((HA.out.2.2.2.below (hbox.trans (hb.mono hbox.size))).more (hbox.trans (hb.mono hbox.size)).size) r5 hr5)
          obtain ⟨D, hD⟩ : ∃ D, w1.heap.size = D := ⟨_, rfl⟩
          rw [hD] at hbk
          have HBX := Lib.hid (And.intro hbox hbk)
          clear hz4 hz5 hr4 hr5 hin hbox hbk
          go_upto_region 6 with fail
          clear hW2 hD
          have a0 : W2.cell? ⟨D, 0, none⟩ = some (.slice A m c) := HBX.out.2.cell 0
          have a1 : W2.cell? ⟨D, 1, none⟩ = some (.int .i64 s0) := HBX.out.2.cell 1
          have a2 : W2.cell? ⟨D, 2, none⟩ = some (.int .i64 t) := HBX.out.2.cell 2
          have a3 : W2.cell? ⟨D, 3, none⟩ = some (.bool b) := HBX.out.2.cell 3
          have a4 : W2.cell? ⟨D, 4, none⟩ = some (.slice L k c2) := HBX.out.2.cell 4
          go_wp2_with fail
          refine HS.out.mono ?_
          rintro e w3 ⟨rfl, hb3⟩
          have hB3 := HBX.out.1.trans (hb3.mono HBX.out.1.size)
          cases r4 with
          | false =>
            obtain rfl := HZ4.out.1 (by simp)
            have HB3 := Lib.hid hB3
            clear hb3 hB3 a0 a1 a2 a3 a4
            go_wp2_with fail
            go_ret
            exact ⟨by rfl, HB3.out⟩
          | true =>
            have HT2 := Lib.hid (HTi.out w3 hb3)
            have hk3 := HBX.out.2.below hb3 HBX.out.2.lt
            clear a0 a1 a2 a3 a4
            have a0 : w3.cell? ⟨D, 0, none⟩ = some (.slice A m c) := hk3.cell 0
            have a1 : w3.cell? ⟨D, 1, none⟩ = some (.int .i64 s0) := hk3.cell 1
            have a2 : w3.cell? ⟨D, 2, none⟩ = some (.int .i64 t) := hk3.cell 2
            have a3 : w3.cell? ⟨D, 3, none⟩ = some (.bool b) := hk3.cell 3
            have a4 : w3.cell? ⟨D, 4, none⟩ = some (.slice L k c2) := hk3.cell 4
            have HB3 := Lib.hid hB3
            clear hb3 hB3 hk3
            go_wp2_with fail
            refine HT2.out.mono ?_
            rintro e w4 ⟨rfl, hb4⟩
            have HB4 := Lib.hid (HB3.out.trans (hb4.mono HB3.out.size))
            clear hb4 a0 a1 a2 a3 a4
            cases r5 with
            | false =>
              obtain rfl := HZ4.out.1 (by simp)
              go_wp2_with fail
              go_ret
              exact ⟨by rfl, HB4.out⟩
            | true =>
              obtain rfl := HZ4.out.2 (by simp) (by simp)
              go_wp2_with fail
              go_ret
              exact ⟨by rfl, HB4.out⟩
        · rw [if_neg (by have := HA.out.2.2.1; omega)] at hin
          subst hin
          have h5 : ((k : Int) != (n0 : Int)) = true := by simp; omega
          have h6 : (k != n0) = true := by simp; omega
          go_wp2_with fail
          go_ret
          exact ⟨by rfl, HB1.out⟩

end Go.Proofs.Yteiojobgjdfdpaa
