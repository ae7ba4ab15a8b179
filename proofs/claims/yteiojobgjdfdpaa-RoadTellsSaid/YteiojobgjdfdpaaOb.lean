/- Walks: the reference's Span. -/
import Derived.Test.YteiojobgjdfdpaaOa
import Derived.Test.YteiojobgjdfdpaaSc
import Derived.Test.YteiojobgjdfdpaaCe
namespace Go.Proofs.Yteiojobgjdfdpaa
open Go.RowKit Go.Sort

theorem rpass_is (x : Am) (b : Bool) (t : Int) (w : World) (hM : ArcM w x.a x.A x.A') :
    Calls Try.prog 42 #[x.v, .int .i64 t, .bool b] w fun e w' => e = .returned (.int .i64 (x.a.pass b t)) ∧ Below w.heap.size w w' :=
  (rpass_any x.a x.A x.A' x.c x.c' b t w hM).mono fun e w' he => by
    obtain ⟨z, rfl, e2, e3⟩ := he
    rw [e2.out.is]
    exact ⟨rfl, e3⟩

set_option maxRecDepth 100000 in
set_option maxHeartbeats 8000000 in
theorem span12_any (l : List Am) (A : Option Addr) (c m : Nat) (p : List Int) (A' : Option Addr) (c' n : Nat) (t : Int) (w : World) (hl : l.length = m) (hA : ArcsAt w.heap.size w A l) (hp : p.length = n) (hI : IntsAt w.heap.size w A' p) (hn12 : n ≤ 2000) (x y z : Int) (hxyz : spanO l p t = (x, y, z)) :
    Calls Try.prog 29 #[.slice A m c, .slice A' n c', .int .i64 t] w fun e w' => e = .returned (.tuple #[.int .i64 x, .int .i64 y, .int .i64 z]) ∧ Below w.heap.size w w' := by
  obtain ⟨r2, hr2⟩ : ∃ r : Bool, r = true ↔ WayP l p := ⟨Classical.propDecidable (WayP l p) |> fun d => @decide _ d, by simp⟩
  obtain ⟨r3, hr3⟩ : ∃ r, decide (IsT t) = r := ⟨_, rfl⟩
  have HA := Lib.hid (And.intro hl hA)
  have HP := Lib.hid (And.intro hp hI)
  have HW := Lib.hid (fun w' h h2 => connected_any l A c m p A' c' n w' hl h hp h2 hn12 r2 hr2)
  have HT := Lib.hid (fun w' => r12Time_any t w' r3 hr3.symm)
  have HO := Lib.hid (And.intro hxyz (And.intro hr2 hr3))
  have hout : ¬ (ValidP l ∧ r2 = true ∧ r3 = true) → x = 0 ∧ y = 0 ∧ z = 1 := fun h => by
    have h2 := hxyz
    unfold spanO at h2
    rw [if_neg (fun hh => h ⟨hh.1, hr2.2 hh.2.1, by rw [← hr3]; exact decide_eq_true hh.2.2⟩)] at h2
    injection h2 with e1 h2
    injection h2 with e2 e3
    exact ⟨e1.symm, e2.symm, e3.symm⟩
  have HOUT := Lib.hid hout
  clear hl hA hp hI hr2 hr3 hxyz hout
  go_enter Try.func29, Try.ntmps29
  by_cases h3 : 20000 < m
  · obtain ⟨rfl, rfl, rfl⟩ := HOUT.out (fun h => by have := h.1.1; have := HA.out.1; omega)
    have h3' : decide (20000 < (m : Int)) = true := decide_eq_true (by omega)
    have h3'' : decide (20000 < m) = true := decide_eq_true (by omega)
    go_wp2_with fail
    refine bodyPost_ret (results_tmp3 rfl _ _ _) rfl ?_
    exact ⟨by rfl, Below.refl _ _⟩
  have h3' : decide (20000 < m) = false := decide_eq_false (by omega)
  have h3'' : decide (20000 < (m : Int)) = false := decide_eq_false (by omega)
  go_wp2_with fail
  refine (HT.out w).mono ?_
  rintro e w3 ⟨rfl, rfl⟩
  cases r3 with
  | false =>
    obtain ⟨rfl, rfl, rfl⟩ := HOUT.out (by simp)
    go_wp2_with fail
    refine bodyPost_ret (results_tmp3 rfl _ _ _) rfl ?_
    exact ⟨by rfl, Below.refl _ _⟩
  | true =>
    go_wp2_with fail
    refine (HW.out w HA.out.2 HP.out.2).mono ?_
    rintro e w2 ⟨rfl, hb2⟩
    have HB2 := Lib.hid hb2; clear hb2
    cases r2 with
    | false =>
      obtain ⟨rfl, rfl, rfl⟩ := HOUT.out (by simp)
      go_wp2_with fail
      refine bodyPost_ret (results_tmp3 rfl _ _ _) rfl ?_
      exact ⟨by rfl, HB2.out⟩
    | true =>
      have HG := Lib.hid (And.intro (HO.out.2.1.1 (by simp)) (show IsT t from of_decide_eq_true HO.out.2.2))
      go_wp2_with fail
      go_loopw [9] (fun iv wr => ∃ i : Nat, iv = .int .i64 i ∧ i ≤ m ∧ Hid (∀ k, k < i → (am l k).a.ok) ∧ Hid (Below w.heap.size w wr)) (fun iv _ => m - (intOf iv).toNat)
      case atStart => exact ⟨0, rfl, by omega, Lib.hid (fun k hk => by omega), HB2⟩
      case round =>
        obtain ⟨i, rfl, hi, hK, hB⟩ := hrel
        by_cases hgo : i < m
        · have hgl : i < l.length := by have := HA.out.1; omega
          have hAr := (HA.out.2.below hB.out).more hB.out.size
          obtain ⟨b, off, hAe, hbB, k0, k1, k2, k3, kl, kh⟩ := hAr i hgl
          have HAr := Lib.hid hAr; clear hAr
          subst hAe
          obtain ⟨r1, hr1⟩ : ∃ r : Bool, r = true ↔ (am l i).a.ok := ⟨Classical.propDecidable (am l i).a.ok |> fun d => @decide _ d, by simp⟩
          have HC := Lib.hid (rarc_any HAr.out (Nat.le_refl _) hgl r1 hr1)
          have hok : r1 = true → (am l i).a.ok := fun a => hr1.1 a
          have hno : r1 = false → x = 0 ∧ y = 0 ∧ z = 1 := fun h => HOUT.out (fun hh => by
            have := hr1.2 (hh.1.2 i hgl); rw [h] at this; cases this)
          obtain ⟨X, hx⟩ : ∃ x, am l i = x := ⟨_, rfl⟩
          have HX := Lib.hid hx
          rw [hx] at HC hok k0 k1 k2 k3
          clear hx kl kh hr1
          obtain ⟨⟨f, t1, lo, hi2⟩, A1, c1, A2, c2⟩ := X
          simp only [Am.v] at HC hok k0 k1 k2 k3
          obtain ⟨n1, hn1⟩ : ∃ n1, lo.length = n1 := ⟨_, rfl⟩
          obtain ⟨n2, hn2⟩ : ∃ n2, hi2.length = n2 := ⟨_, rfl⟩
          rw [hn1] at k2 HC
          rw [hn2] at k3 HC
          clear hn1 hn2
          have HOK := Lib.hid hok; clear hok
          have HNO := Lib.hid hno; clear hno
          go_wp2_with fail
          refine HC.out.mono ?_
          rintro e w2 ⟨rfl, hb2⟩
          have HBn := Lib.hid (hB.out.trans (hb2.mono hB.out.size))
          clear hb2
          cases r1 with
          | false =>
            obtain ⟨rfl, rfl, rfl⟩ := HNO.out rfl
            go_wp2_with fail
            refine bodyPost_ret (results_tmp3 rfl _ _ _) rfl ?_
            exact ⟨by rfl, HBn.out⟩
          | true =>
            have HY := Lib.hid (HOK.out rfl)
            go_wp2_with fail
            go_roundw
            case rel => exact ⟨i + 1, rfl, by omega, Lib.hid (fun k hk => by
              by_cases e : k < i
              · exact hK.out k e
              · have : k = i := by omega
                subst this
                rw [HX.out]
                exact HY.out), HBn⟩
            case measure => simp [intOf]; omega
        · have e : i = m := by omega
          subst e
          have HV := Lib.hid (show ValidP l from ⟨by have := HA.out.1; omega, fun k hk => hK.out k (by have := HA.out.1; omega)⟩)
          have hno : ∀ k, k ≤ n → ¬ IsT (runW l true t p k) → x = 0 ∧ y = 0 ∧ z = 3 := fun k hk h => by
            have h2 := HO.out.1
            unfold spanO at h2
            rw [if_pos ⟨HV.out, HG.out⟩, if_neg (fun hh => h (run_time' (by have := HP.out.1; omega) hh))] at h2
            injection h2 with e1 h2
            injection h2 with e2 e3
            exact ⟨e1.symm, e2.symm, e3.symm⟩
          have hyes : IsT (runW l true t p n) → x = runW l false t p n ∧ y = runW l true t p n ∧ z = 0 := fun h => by
            have h2 := HO.out.1
            unfold spanO at h2
            rw [if_pos ⟨HV.out, HG.out⟩, if_pos (by rw [HP.out.1]; exact h), HP.out.1] at h2
            injection h2 with e1 h2
            injection h2 with e2 e3
            exact ⟨e1.symm, e2.symm, e3.symm⟩
          have HN := Lib.hid hno; clear hno
          have HY := Lib.hid hyes; clear hyes
          have HB0 := Lib.hid hB.out
          clear hB hK
          go_wp2_with fail
          obtain ⟨w9, hw9⟩ : ∃ W, wr = W := ⟨_, rfl⟩
          subst hw9
          go_loopw [10, 11, 12] (fun lv hv iv wq => ∃ (j : Nat) (lo up : Int), lv = .int .i64 lo ∧ hv = .int .i64 up ∧ iv = .int .i64 j ∧ j ≤ n ∧ Hid (lo = runW l false t p j ∧ up = runW l true t p j ∧ IsT up) ∧ Hid (Below w.heap.size w wq)) (fun _ _ iv _ => n - (intOf iv).toNat)
          case atStart => exact ⟨0, t, t, rfl, rfl, rfl, by omega, Lib.hid ⟨rfl, rfl, HG.out.2⟩, HB0⟩
          case round =>
            clear HB0
            obtain ⟨j, lo, up, rfl, rfl, rfl, hj, hE, hB⟩ := hrel
            by_cases hgo : j < n
            · obtain ⟨b, off, hAe, hbB, k0⟩ := (HP.out.2.below hB.out) j (by have := HP.out.1; omega)
              subst hAe
              have hix := (HG.out.1.2 j (by have := HP.out.1; omega)).1
              obtain ⟨g, hg⟩ : ∃ g : Nat, p.getD j 0 = (g : Int) := ⟨(p.getD j 0).toNat, by omega⟩
              have e1 : runW l false t p (j + 1) = (am l g).a.pass false lo := by rw [hE.out.1]; show (am l (p.getD j 0).toNat).a.pass false _ = _; rw [hg, Int.toNat_natCast]
              have e2 : runW l true t p (j + 1) = (am l g).a.pass true up := by rw [hE.out.2.1]; show (am l (p.getD j 0).toNat).a.pass true _ = _; rw [hg, Int.toNat_natCast]
              rw [hg] at k0 hix
              have hgl : g < i := by have := HA.out.1; omega
              have hgl2 : g < l.length := by have := HA.out.1; omega
              have hAr := (HA.out.2.below hB.out).more hB.out.size
              have hMr := hAr.m (Nat.le_refl _) hgl2
              obtain ⟨b2, o2, hAe, hb2, z0, z1, z2, z3, _, _⟩ := hAr g hgl2
              subst hAe
              have Q1 := Lib.hid (rpass_is (am l g) false lo wr hMr)
              have Q2 := Lib.hid (fun W (h : Below wr.heap.size wr W) => rpass_is (am l g) true up W (hMr.below h))
              obtain ⟨v1, hv1⟩ : ∃ v, (am l g).a.pass false lo = v := ⟨_, rfl⟩
              obtain ⟨v2, hv2⟩ : ∃ v, (am l g).a.pass true up = v := ⟨_, rfl⟩
              rw [hv1] at Q1 e1
              rw [hv2] at Q2 e2
              have HE := Lib.hid (And.intro e1 e2)
              clear hv1 hv2 e1 e2 hix hg hMr hAr hgl2
              obtain ⟨a, ha⟩ : ∃ a, am l g = a := ⟨_, rfl⟩
              rw [ha] at Q1 Q2 z0 z1 z2 z3
              clear ha
              obtain ⟨⟨f, t2, lo2, hi2⟩, A1, c1, A2, c2⟩ := a
              simp only [Am.v] at Q1 Q2 z0 z1 z2 z3
              obtain ⟨n1, hn1⟩ : ∃ n1, lo2.length = n1 := ⟨_, rfl⟩
              obtain ⟨n2, hn2⟩ : ∃ n2, hi2.length = n2 := ⟨_, rfl⟩
              rw [hn1] at z2 Q1 Q2
              rw [hn2] at z3 Q1 Q2
              clear hn1 hn2
              go_wp2_with fail
              refine Q1.out.mono ?_
              rintro e w4 ⟨rfl, hb4⟩
              have HB4 := Lib.hid (hB.out.trans (hb4.mono hB.out.size))
              have HQ2 := Lib.hid (Q2.out w4 hb4)
              have k0 := (hb4.cell (p := ⟨b, off + j, none⟩) (block_lt_of_cell k0)).trans k0
              have z0 := (hb4.cell (p := ⟨b2, o2 + g * 4, none⟩) hb2).trans z0
              have z1 := (hb4.cell (p := ⟨b2, o2 + g * 4 + 1, none⟩) hb2).trans z1
              have z2 := (hb4.cell (p := ⟨b2, o2 + g * 4 + 2, none⟩) hb2).trans z2
              have z3 := (hb4.cell (p := ⟨b2, o2 + g * 4 + 3, none⟩) hb2).trans z3
              clear hb4 Q1 Q2
              go_wp2_with fail
              refine HQ2.out.mono ?_
              rintro e w5 ⟨rfl, hb5⟩
              have HB5 := Lib.hid (HB4.out.trans (hb5.mono HB4.out.size))
              clear hb5 k0 z0 z1 z2 z3 HQ2
              obtain ⟨r, hr⟩ : ∃ r, r = decide (0 ≤ v2 ∧ v2 ≤ 1048576) := ⟨_, rfl⟩
              have HRr := Lib.hid (r12Time_any v2 w5 r hr)
              cases r with
              | false =>
                obtain ⟨rfl, rfl, rfl⟩ := HN.out (j + 1) (by omega) (by rw [HE.out.2]; exact of_decide_eq_false hr.symm)
                clear hr
                go_wp2_with fail
                refine HRr.out.mono ?_
                rintro e w7 ⟨rfl, rfl⟩
                go_wp2_with fail
                refine bodyPost_ret (results_tmp3 rfl _ _ _) rfl ?_
                exact ⟨by rfl, HB5.out⟩
              | true =>
                have HTT := Lib.hid (show IsT v2 from of_decide_eq_true hr.symm)
                clear hr
                go_wp2_with fail
                refine HRr.out.mono ?_
                rintro e w7 ⟨rfl, rfl⟩
                go_wp2_with fail
                go_roundw
                case rel => exact ⟨j + 1, v1, v2, rfl, rfl, rfl, by omega, Lib.hid ⟨HE.out.1.symm, HE.out.2.symm, HTT.out⟩, HB5⟩
                case measure => simp [intOf]; omega
            · have e : j = n := by omega
              subst e
              obtain ⟨e1, e2, e3⟩ := HY.out (by rw [← hE.out.2.1]; exact hE.out.2.2)
              rw [← hE.out.1] at e1
              rw [← hE.out.2.1] at e2
              subst e1; subst e2; subst e3
              go_wp2_with fail
              refine bodyPost_ret (results_tmp3 rfl _ _ _) rfl ?_
              exact ⟨by rfl, hB.out⟩

end Go.Proofs.Yteiojobgjdfdpaa
