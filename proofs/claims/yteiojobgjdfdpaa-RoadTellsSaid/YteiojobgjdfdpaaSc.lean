/- Walks: label's Span. -/
import Derived.Test.YteiojobgjdfdpaaSa
import Derived.Test.YteiojobgjdfdpaaSb
import Derived.Lib.QuietBelow
import Derived.OwnWalk
namespace Go.Proofs.Yteiojobgjdfdpaa
open Go.RowKit Go.Sort

/-- The time behind so many arcs of a way. -/
noncomputable def runW (l : List Am) (b : Bool) (t : Int) (p : List Int) : Nat → Int
  | 0 => t
  | k + 1 => (am l (p.getD k 0).toNat).a.pass b (runW l b t p k)
/-- What Span returns. -/
noncomputable def spanO (l : List Am) (p : List Int) (t : Int) : Int × Int × Int := open Classical in
  if ValidP l ∧ WayP l p ∧ IsT t then (if IsT (runW l true t p p.length) then (runW l false t p p.length, runW l true t p p.length, 0) else (0, 0, 3)) else (0, 0, 1)
theorem run_time {l : List Am} {b : Bool} {t : Int} {p : List Int} {k : Nat} : ∀ j, IsT (runW l b t p (k + j)) → IsT (runW l b t p k)
  | 0, h => h
  | j + 1, h => run_time j (pass_time (show IsT ((am l (p.getD (k + j) 0).toNat).a.pass b (runW l b t p (k + j))) from h)).1
theorem run_time' {l : List Am} {b : Bool} {t : Int} {p : List Int} {k n : Nat} (hk : k ≤ n) (h : IsT (runW l b t p n)) : IsT (runW l b t p k) := run_time (n - k) (by rw [show k + (n - k) = n by omega]; exact h)
theorem low_high {a : Arc} (ho : a.ok) {x y : Int} (hx : IsT x) (hy : IsT y) (hxy : x ≤ y) : a.pass false x ≤ a.pass true y :=
  Int.le_trans ((pass_arr (b := false) ho hx).mono (pass_arr (b := false) ho hy) hxy) ((pass_arr ho hy).less (pass_arr ho hy) (fun u => ho.low u))
/-- The low bound is never later than the high one. -/
theorem run_low {l : List Am} {t : Int} {p : List Int} (hV : ValidP l) (hW : WayP l p) (ht : IsT t) : ∀ k, k ≤ p.length → IsT (runW l true t p k) → IsT (runW l false t p k) ∧ runW l false t p k ≤ runW l true t p k ∧ t ≤ runW l false t p k := by
  intro k
  induction k with
  | zero => intro _ _; exact ⟨ht, Int.le_refl _, Int.le_refl _⟩
  | succ k ih =>
    intro hk h
    obtain ⟨g1, g2, g3⟩ := ih (by omega) (run_time' (Nat.le_succ k) h)
    have hh := run_time' (Nat.le_succ k) h
    have hix := (hW.2 k (by omega)).1
    have ho := hV.2 (p.getD k 0).toNat (by omega)
    have h1 : runW l false t p (k + 1) ≤ runW l true t p (k + 1) := low_high ho g1 hh g2
    have h2 : runW l false t p k ≤ runW l false t p (k + 1) := (pass_arr (b := false) ho g1).ge ho
    have h3 := ht.1
    have h4 := h.2
    exact ⟨⟨by omega, by omega⟩, h1, by omega⟩

set_option maxRecDepth 100000 in
set_option maxHeartbeats 8000000 in
theorem span_any (l : List Am) (A : Option Addr) (c m : Nat) (p : List Int) (A' : Option Addr) (c' n : Nat) (t : Int) (w : World) (hl : l.length = m) (hA : ArcsAt w.heap.size w A l) (hp : p.length = n) (hI : IntsAt w.heap.size w A' p) (x y z : Int) (hxyz : spanO l p t = (x, y, z)) :
    Calls Try.prog 28 #[.slice A m c, .slice A' n c', .int .i64 t] w fun e w' => e = .returned (.tuple #[.int .i64 x, .int .i64 y, .int .i64 z]) ∧ Below w.heap.size w w' := by
  obtain ⟨r1, hr1⟩ : ∃ r : Bool, r = true ↔ ValidP l := ⟨Classical.propDecidable (ValidP l) |> fun d => @decide _ d, by simp⟩
  obtain ⟨r2, hr2⟩ : ∃ r : Bool, r = true ↔ WayP l p := ⟨Classical.propDecidable (WayP l p) |> fun d => @decide _ d, by simp⟩
  obtain ⟨r3, hr3⟩ : ∃ r, decide (IsT t) = r := ⟨_, rfl⟩
  have HA := Lib.hid (And.intro hl hA)
  have HP := Lib.hid (And.intro hp hI)
  have HV := Lib.hid (fun w' h => valid_any l A c m w' hl h r1 hr1)
  have HW := Lib.hid (fun w' h h2 => isWay_any l A c m p A' c' n w' hl h hp h2 r2 hr2)
  have HT := Lib.hid (fun w' => lTime_any t w' r3 hr3.symm)
  have HO := Lib.hid (And.intro hxyz (And.intro hr1 (And.intro hr2 hr3)))
  clear hl hA hp hI hr1 hr2 hr3 hxyz
  go_enter Try.func28, Try.ntmps28
  go_wp2_with fail
  refine (HV.out w HA.out.2).mono ?_
  rintro e w1 ⟨rfl, hb1⟩
  have HB1 := Lib.hid hb1; clear hb1
  have hout : ¬ (r1 = true ∧ r2 = true ∧ r3 = true) → x = 0 ∧ y = 0 ∧ z = 1 := fun h => by
    have h2 := HO.out.1
    unfold spanO at h2
    rw [if_neg (fun hh => h ⟨HO.out.2.1.2 hh.1, HO.out.2.2.1.2 hh.2.1, by rw [← HO.out.2.2.2]; exact decide_eq_true hh.2.2⟩)] at h2
    injection h2 with e1 h2
    injection h2 with e2 e3
    exact ⟨e1.symm, e2.symm, e3.symm⟩
  have HOUT := Lib.hid hout; clear hout
  cases r1 with
  | false =>
    obtain ⟨rfl, rfl, rfl⟩ := HOUT.out (by simp)
    go_wp2_with fail
    refine bodyPost_ret (results_tmp3 rfl _ _ _) rfl ?_
    exact ⟨by rfl, HB1.out⟩
  | true =>
    go_wp2_with fail
    refine (HW.out w1 ((HA.out.2.below HB1.out).more HB1.out.size) ((HP.out.2.below HB1.out).more HB1.out.size)).mono ?_
    rintro e w2 ⟨rfl, hb2⟩
    have HB2 := Lib.hid (HB1.out.trans (hb2.mono HB1.out.size)); clear hb2
    cases r2 with
    | false =>
      obtain ⟨rfl, rfl, rfl⟩ := HOUT.out (by simp)
      go_wp2_with fail
      refine bodyPost_ret (results_tmp3 rfl _ _ _) rfl ?_
      exact ⟨by rfl, HB2.out⟩
    | true =>
      go_wp2_with fail
      refine (HT.out w2).mono ?_
      rintro e w3 ⟨rfl, rfl⟩
      cases r3 with
      | false =>
        obtain ⟨rfl, rfl, rfl⟩ := HOUT.out (by simp)
        go_wp2_with fail
        refine bodyPost_ret (results_tmp3 rfl _ _ _) rfl ?_
        exact ⟨by rfl, HB2.out⟩
      | true =>
        have HG := Lib.hid (And.intro (HO.out.2.1.1 (by simp)) (And.intro (HO.out.2.2.1.1 (by simp)) (of_decide_eq_true HO.out.2.2.2)))
        have hn2 : n ≤ 2000 := by have h1 := HG.out.2.1.1; have h2 := HP.out.1; omega
        have hno : ∀ k, k ≤ n → ¬ IsT (runW l true t p k) → x = 0 ∧ y = 0 ∧ z = 3 := fun k hk h => by
          have h2 := HO.out.1
          unfold spanO at h2
          rw [if_pos HG.out, if_neg (fun hh => h (run_time' (by have := HP.out.1; omega) hh))] at h2
          injection h2 with e1 h2
          injection h2 with e2 e3
          exact ⟨e1.symm, e2.symm, e3.symm⟩
        have hyes : IsT (runW l true t p n) → x = runW l false t p n ∧ y = runW l true t p n ∧ z = 0 := fun h => by
          have h2 := HO.out.1
          unfold spanO at h2
          rw [if_pos HG.out, if_pos (by rw [HP.out.1]; exact h), HP.out.1] at h2
          injection h2 with e1 h2
          injection h2 with e2 e3
          exact ⟨e1.symm, e2.symm, e3.symm⟩
        have HN := Lib.hid hno; clear hno
        have HY := Lib.hid hyes; clear hyes
        go_wp2_with fail
        go_loopw [9, 10, 31] (fun lv hv iv wr => ∃ (i : Nat) (lo up : Int), lv = .int .i64 lo ∧ hv = .int .i64 up ∧ iv = .int .i64 i ∧ i ≤ n ∧ Hid (lo = runW l false t p i ∧ up = runW l true t p i ∧ IsT up) ∧ Hid (Below w.heap.size w wr)) (fun _ _ iv _ => n - (intOf iv).toNat)
        case atStart => exact ⟨0, t, t, rfl, rfl, rfl, by omega, Lib.hid ⟨rfl, rfl, HG.out.2.2⟩, HB2⟩
        case round =>
          obtain ⟨i, lo, up, rfl, rfl, rfl, hi, hE, hB⟩ := hrel
          by_cases hgo : i < n
          · obtain ⟨b, off, hAe, hbB, k0⟩ := (HP.out.2.below hB.out) i (by have := HP.out.1; omega)
            subst hAe
            have hix := (HG.out.2.1.2 i (by have := HP.out.1; omega)).1
            obtain ⟨j, hj⟩ : ∃ j : Nat, p.getD i 0 = (j : Int) := ⟨(p.getD i 0).toNat, by omega⟩
            have e1 : runW l false t p (i + 1) = (am l j).a.pass false lo := by rw [hE.out.1]; show (am l (p.getD i 0).toNat).a.pass false _ = _; rw [hj, Int.toNat_natCast]
            have e2 : runW l true t p (i + 1) = (am l j).a.pass true up := by rw [hE.out.2.1]; show (am l (p.getD i 0).toNat).a.pass true _ = _; rw [hj, Int.toNat_natCast]
            rw [hj] at k0 hix
            have hjl : j < m := by have := HA.out.1; omega
            have hArc := (HA.out.2.below hB.out).more hB.out.size
            obtain ⟨g, o, hAe, hg, z0, z1, z2, z3, _, _⟩ := hArc j (by have := HA.out.1; omega)
            subst hAe
            obtain ⟨v1, hv1⟩ : ∃ v, (am l j).a.pass false lo = v := ⟨_, rfl⟩
            obtain ⟨v2, hv2⟩ : ∃ v, (am l j).a.pass true up = v := ⟨_, rfl⟩
            have hP : ∀ b q, Hid (∀ xx os, Calls Try.prog 24 #[(am l j).v, .int .i64 q, .bool b] (grow (redrawn wr xx) os) fun e w'' => e = .returned (.int .i64 ((am l j).a.pass b q)) ∧ ∃ p : Regrown, w'' = grow (redrawn wr p.d) p.os) := fun b q => Lib.hid (fun xx os => Calls.regrown_of ((pass_any (am l j).a (am l j).A (am l j).A' (am l j).c (am l j).c' b q _ ((hArc.m (Nat.le_refl _) (by have := HA.out.1; omega)).below (below_regrown wr xx os))).mono fun e w' he => by
              obtain ⟨z, rfl, e2, e3⟩ := he
              rw [e2.out.is]
              exact ⟨rfl, e3⟩))
            have Q1 := hP false lo
            have Q2 := hP true up
            rw [hv1] at Q1 e1
            rw [hv2] at Q2 e2
            have HE := Lib.hid (And.intro e1 e2)
            clear hP hv1 hv2 e1 e2 hix hj
            obtain ⟨a, ha⟩ : ∃ a, am l j = a := ⟨_, rfl⟩
            rw [ha] at Q1 Q2 z0 z1 z2 z3
            clear ha hArc
            obtain ⟨⟨f, t, lo2, hi2⟩, A1, c1, A2, c2⟩ := a
            simp only [Am.v] at Q1 Q2 z0 z1 z2 z3
            obtain ⟨n1, hn1⟩ : ∃ n1, lo2.length = n1 := ⟨_, rfl⟩
            obtain ⟨n2, hn2⟩ : ∃ n2, hi2.length = n2 := ⟨_, rfl⟩
            rw [hn1] at z2 Q1 Q2
            rw [hn2] at z3 Q1 Q2
            clear hn1 hn2
            go_upto_region 7 with fail
            have y0 := cell_regrown z0
            have y1 := cell_regrown z1
            have y2 := cell_regrown z2
            have y3 := cell_regrown z3
            refine wp_region_quiet_below (by kernel_rfl) (by kernel_rfl) ?_
            repeat (quiet_step (first | (go_at_call 24; first | with_reducible exact Q1.out _ _ | with_reducible exact Q2.out _ _)))
            refine wpQuiet_nil ?_
            intro w6 hw6
            have HB6 := Lib.hid (hB.out.trans ((show Below wr.heap.size wr w6 by obtain ⟨p, rfl⟩ := hw6; exact below_regrown wr p.d p.os).mono hB.out.size))
            clear hw6 y0 y1 y2 y3 z0 z1 z2 z3 Q1 Q2
            obtain ⟨r, hr⟩ : ∃ r, r = decide (0 ≤ v2 ∧ v2 ≤ 1048576) := ⟨_, rfl⟩
            have HRr := Lib.hid (lTime_any v2 w6 r hr)
            cases r with
            | false =>
              obtain ⟨rfl, rfl, rfl⟩ := HN.out (i + 1) (by omega) (by rw [HE.out.2]; exact of_decide_eq_false hr.symm)
              clear hr
              go_wp2_with fail
              refine HRr.out.mono ?_
              rintro e w7 ⟨rfl, rfl⟩
              go_wp2_with fail
              refine bodyPost_ret (results_tmp3 rfl _ _ _) rfl ?_
              exact ⟨by rfl, HB6.out⟩
            | true =>
              have HTT := Lib.hid (show IsT v2 from of_decide_eq_true hr.symm)
              clear hr
              go_wp2_with fail
              refine HRr.out.mono ?_
              rintro e w7 ⟨rfl, rfl⟩
              go_wp2_with fail
              go_roundw
              case rel => exact ⟨i + 1, v1, v2, rfl, rfl, rfl, by omega, Lib.hid ⟨HE.out.1.symm, HE.out.2.symm, HTT.out⟩, HB6⟩
              case measure => simp [intOf]; omega
          · have e : i = n := by omega
            subst e
            obtain ⟨e1, e2, e3⟩ := HY.out (by rw [← hE.out.2.1]; exact hE.out.2.2)
            rw [← hE.out.1] at e1
            rw [← hE.out.2.1] at e2
            subst e1; subst e2; subst e3
            go_wp2_with fail
            refine bodyPost_ret (results_tmp3 rfl _ _ _) rfl ?_
            exact ⟨by rfl, hB.out⟩

end Go.Proofs.Yteiojobgjdfdpaa
