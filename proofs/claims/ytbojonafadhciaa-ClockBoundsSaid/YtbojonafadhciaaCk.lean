/- Walks: the law ClockHours. -/
import Derived.Test.YtbojonafadhciaaCi
import Derived.Lib.QuietBelow
namespace Go.Proofs.Ytbojonafadhciaa
open Go.RowKit Go.Sort

theorem Arr.day {a : Arc} {b : Bool} {t z : Int} (ho : a.ok) (h : Arr a b t z) (ht : IsT t) (hd : t ≤ 1045696) : Arr a b (t + 1440) (z + 1440) := by
  have h1 := h.le_took ht
  have h2 := (ho.mm b t).2
  refine ⟨fun u u1 u2 => ?_, ?_⟩
  · have h3 := h.le (u - 1440) (by omega) (by omega)
    have h4 := Arc.mm_day (a := a) (b := b) (u - 1440)
    rw [show u - 1440 + 1440 = u by omega] at h4
    omega
  · obtain ⟨u, u1, u2, u3⟩ := h.at_
    have h3 := (ho.mm b u).1
    exact ⟨u + 1440, by omega, by omega, by rw [Arc.mm_day]; omega⟩
theorem Till.skip {a : Arc} {b : Bool} {t u z : Int} (h : Till a b t u z) (hm : 1048576 < u) : Till a b t (u + 60) z :=
  ⟨fun v h1 h2 h3 => h.le v h1 (by omega) h3, h.at_⟩

set_option maxRecDepth 100000 in
set_option maxHeartbeats 8000000 in
theorem hours_law_few (f0 t0 : Int) (A A' : Option Addr) (c c' n m : Nat) (t : Int) (b : Bool) (w : World) (h : ¬ (n ≤ 40 ∧ m ≤ 40)) :
    Calls Try.prog 7 #[.agg #[.int .i64 f0, .int .i64 t0, .slice A n c, .slice A' m c'], .int .i64 t, .bool b] w fun e w' => e = .returned (.bool true) ∧ Below w.heap.size w w' := by
  have hA0 : Below w.heap.size w (w.alloc (.cells #[.int .i64 f0, .int .i64 t0, .slice A n c, .slice A' m c'] 24)) := (Below.refl _ _).alloc (Nat.le_refl _) _
  have hK := Blk.new w 24 #[.int .i64 f0, .int .i64 t0, .slice A n c, .slice A' m c']
  have HF := Lib.hid (fun w => few_any f0 t0 A A' n m c c' w false (decide_eq_false h).symm); clear h
  go_enter Try.func7, Try.ntmps7
  go_wp2_with fail
  refine (small_any _).mono ?_
  rintro e w1 ⟨rfl, hb1⟩
  obtain ⟨k0, k1, k2, k3⟩ := box_cells (hK.below hb1 (by simp))
  have hB1 := hA0.trans (hb1.mono hA0.size)
  go_wp2_with fail
  refine (HF.out _).mono ?_
  rintro e w2 ⟨rfl, hb2⟩
  go_wp2_with fail
  go_ret
  exact ⟨by rfl, hB1.trans (hb2.mono hB1.size)⟩

set_option maxRecDepth 100000 in
set_option maxHeartbeats 8000000 in
theorem hours_law_bad (a : Arc) (A A' : Option Addr) (c c' n m : Nat) (t : Int) (b : Bool) (w : World) (hM : ArcM w a A A') (h : n ≤ 40 ∧ m ≤ 40) (ho : ¬ a.ok) (hn : a.lo.length = n) (hm : a.hi.length = m) :
    Calls Try.prog 7 #[.agg #[.int .i64 a.f, .int .i64 a.t, .slice A n c, .slice A' m c'], .int .i64 t, .bool b] w fun e w' => e = .returned (.bool true) ∧ Below w.heap.size w w' := by
  have hA0 : Below w.heap.size w (w.alloc (.cells #[.int .i64 a.f, .int .i64 a.t, .slice A n c, .slice A' m c'] 24)) := (Below.refl _ _).alloc (Nat.le_refl _) _
  have HK := Lib.hid (Blk.new w 24 #[.int .i64 a.f, .int .i64 a.t, .slice A n c, .slice A' m c'])
  have HF := Lib.hid (fun w => few_any a.f a.t A A' n m c c' w true (decide_eq_true h).symm); clear h
  have HR := Lib.hid (fun w' (hb : Below w.heap.size w w') => right_no a A A' c c' n m w' (hM.below hb) ho hn hm); clear hM ho hn hm
  go_enter Try.func7, Try.ntmps7
  go_wp2_with fail
  refine (small_any _).mono ?_
  rintro e w1 ⟨rfl, hb1⟩
  have hK1 := HK.out.below hb1 (by simp)
  obtain ⟨k0, k1, k2, k3⟩ := box_cells hK1
  have hB1 := hA0.trans (hb1.mono hA0.size)
  go_wp2_with fail
  refine (HF.out _).mono ?_
  rintro e w2 ⟨rfl, hb2⟩
  have hB2 := hB1.trans (hb2.mono hB1.size)
  have hK2 := hK1.below hb2 hK1.lt
  clear k0 k1 k2 k3
  obtain ⟨k0, k1, k2, k3⟩ := box_cells hK2
  go_wp2_with fail
  refine (HR.out _ hB2).mono ?_
  rintro e w3 ⟨rfl, hb3⟩
  go_wp2_with fail
  go_ret
  exact ⟨by rfl, hB2.trans (hb3.mono hB2.size)⟩

set_option maxRecDepth 100000 in
set_option maxHeartbeats 8000000 in
theorem hours_law_ok (a : Arc) (A A' : Option Addr) (c c' : Nat) (t : Int) (b : Bool) (w : World) (hM : ArcM w a A A') (ho : a.ok)  :
    Calls Try.prog 7 #[.agg #[.int .i64 a.f, .int .i64 a.t, .slice A 24 c, .slice A' 24 c'], .int .i64 t, .bool b] w fun e w' => e = .returned (.bool true) ∧ Below w.heap.size w w' := by
  have hA0 : Below w.heap.size w (w.alloc (.cells #[.int .i64 a.f, .int .i64 a.t, .slice A 24 c, .slice A' 24 c'] 24)) := (Below.refl _ _).alloc (Nat.le_refl _) _
  have HL := Lib.hid (show Lie w (w.alloc (.cells #[.int .i64 a.f, .int .i64 a.t, .slice A 24 c, .slice A' 24 c'] 24)) w.heap.size a A c A' c' from ⟨hM.below hA0, Blk.new w 24 #[.int .i64 a.f, .int .i64 a.t, .slice A 24 c, .slice A' 24 c'], hA0⟩)
  clear hA0 hM
  have HO := Lib.hid ho; clear ho
  go_enter Try.func7, Try.ntmps7
  go_wp2_with fail
  obtain ⟨G, hG⟩ : ∃ G, w.heap.size = G := ⟨_, rfl⟩
  rw [hG] at HL ⊢
  have HG := Lib.hid hG; clear hG
  refine (small_any _).mono ?_
  rintro e w1 ⟨rfl, hb1⟩
  have HL1 := Lib.hid (HL.out.below hb1)
  clear HL hb1
  obtain ⟨k0, k1, k2, k3⟩ := box_cells HL1.out.k
  go_wp2_with fail
  refine (few_any a.f a.t A A' 24 24 c c' _ true (by decide)).mono ?_
  rintro e w2 ⟨rfl, hb2⟩
  have HL2 := Lib.hid (HL1.out.below hb2)
  clear HL1 hb2 k0 k1 k2 k3
  obtain ⟨k0, k1, k2, k3⟩ := box_cells HL2.out.k
  go_wp2_with fail
  refine (right_yes a A A' c c' _ HL2.out.m HO.out).mono ?_
  rintro e w3 ⟨rfl, hb3⟩
  have HL3 := Lib.hid (HL2.out.below hb3)
  clear HL2 hb3 k0 k1 k2 k3
  obtain ⟨k0, k1, k2, k3⟩ := box_cells HL3.out.k
  by_cases ht0 : t < 0
  · go_wp2_with fail
    go_ret
    exact ⟨by rfl, HL3.out.bl⟩
  by_cases ht1 : 1048576 < t
  · go_wp2_with fail
    go_ret
    exact ⟨by rfl, HL3.out.bl⟩
  have HT := Lib.hid (show IsT t from ⟨by omega, by omega⟩)
  have ht2 : 0 ≤ t := by omega
  have hq1 : t.tdiv 60 = t / 60 := Int.tdiv_eq_ediv_of_nonneg ht2
  have HTF := Lib.hid (show Till a b t ((t / 60 + 1) * 60) (t + a.mm b t) by
    have h1 := Till.first (a := a) (b := b) HT.out
    rwa [show t - t % 60 + 60 = (t / 60 + 1) * 60 by omega] at h1)
  have hd0 : 0 ≤ t / 60 := by omega
  have hd1 : t / 60 ≤ 17477 := by omega
  have hd2 : t ≤ t / 60 * 60 + 59 := by omega
  have hd3 : t / 60 * 60 ≤ t := by omega
  obtain ⟨d, hd⟩ : ∃ d, t / 60 = d := ⟨_, rfl⟩
  rw [hd] at hq1 HTF hd0 hd1 hd2 hd3
  clear hd
  have hm0 := (HO.out.mm b t).1
  have hm1 := (HO.out.mm b t).2
  obtain ⟨m, hm⟩ : ∃ m, a.mm b t = m := ⟨_, rfl⟩
  rw [hm] at hm0 hm1 HTF
  have HMM := Lib.hid hm; clear hm
  go_wp2_with fail
  refine (took_yes a A A' c c' b t _ HL3.out.m HO.out HT.out).mono ?_
  rintro e w4 ⟨rfl, hb4⟩
  have HL4 := Lib.hid (HL3.out.below hb4)
  clear HL3 hb4 k0 k1 k2 k3
  obtain ⟨k0, k1, k2, k3⟩ := box_cells HL4.out.k
  rw [HMM.out]
  go_wp2_with fail
  clear k0 k1 k2 k3
  go_loopw [8, 9] (fun zv kv wr => ∃ (z k : Int), zv = .int .i64 z ∧ kv = .int .i64 k ∧ 1 ≤ k ∧ k ≤ 11 ∧ 0 ≤ z ∧ z ≤ t + 600 ∧ Hid (Till a b t ((d + k) * 60) z) ∧ Hid (Lie w wr G a A c A' c')) (fun _ kv _ => (11 - intOf kv).toNat)
  case atStart => exact ⟨t + m, 1, rfl, rfl, by omega, by omega, by omega, by omega, HTF, HL4⟩
  case round =>
    obtain ⟨z, k, rfl, rfl, hk0, hk1, hz0, hz1, hI, hLr⟩ := hrel
    clear HL4 HTF
    by_cases hgo : k ≤ 10
    · have hu0 : 0 ≤ (d + k) * 60 := by omega
      have hu1 : (d + k) * 60 ≤ 10000000 := by omega
      have hu2 : ((d + k) * 60) % 60 = 0 := by omega
      have hu3 : t ≤ (d + k) * 60 := by omega
      have HN : Hid ((d + (k + 1)) * 60 = (d + k) * 60 + 60) := Lib.hid (by omega)
      have HU := Lib.hid hu2; clear hu2
      by_cases hum : (d + k) * 60 ≤ 1048576
      · obtain ⟨k0, k1, k2, k3⟩ := box_cells hLr.out.k
        go_wp2_with fail
        refine (took_yes a A A' c c' b ((d + k) * 60) _ hLr.out.m HO.out ⟨hu0, hum⟩).mono ?_
        rintro e wn ⟨rfl, hbn⟩
        have HLn := Lib.hid (hLr.out.below hbn)
        have HTI := Lib.hid (hI.out.hour HU.out hu3 hum)
        clear hbn k0 k1 k2 k3
        have hy0 := (HO.out.mm b ((d + k) * 60)).1
        have hy1 := (HO.out.mm b ((d + k) * 60)).2
        obtain ⟨y, hy⟩ : ∃ m, a.mm b ((d + k) * 60) = m := ⟨_, rfl⟩
        rw [hy] at hy0 hy1 HTI ⊢
        clear hy
        go_wp2_with fail
        go_roundw
        case rel => exact ⟨_, _, rfl, rfl, by omega, by omega, by omega, by omega, Lib.hid (by rw [HN.out]; exact HTI.out), HLn⟩
        case measure => simp [intOf]; omega
      · have HTI := Lib.hid (hI.out.skip (by omega))
        go_wp2_with fail
        go_roundw
        case rel => exact ⟨_, _, rfl, rfl, by omega, by omega, by omega, by omega, Lib.hid (by rw [HN.out]; exact HTI.out), hLr⟩
        case measure => simp [intOf]; omega
    · have hk : k = 11 := by omega
      subst hk
      have HA := Lib.hid (hI.out.done HO.out (.inl (by omega)))
      clear hI
      obtain ⟨k0, k1, k2, k3⟩ := box_cells hLr.out.k
      go_wp2_with fail
      refine (pass_yes a A A' c c' b t _ hLr.out.m HO.out HT.out).mono ?_
      rintro e w5 ⟨z', rfl, hz', hb5⟩
      have HL5 := Lib.hid (hLr.out.below hb5)
      have hzz := hz'.out.eq HA.out
      subst hzz
      clear hb5 hz' hLr k0 k1 k2 k3
      by_cases hday : 1045696 < t
      · go_wp2_with fail
        go_ret
        exact ⟨by rfl, HL5.out.bl⟩
      · obtain ⟨k0, k1, k2, k3⟩ := box_cells HL5.out.k
        have c0 := cell_regrown k0
        have c1 := cell_regrown k1
        have c2 := cell_regrown k2
        have c3 := cell_regrown k3
        have HD := Lib.hid (HA.out.day HO.out HT.out (by omega))
        have q1 : ∀ x os, Calls Try.prog 14 #[.agg #[.int .i64 a.f, .int .i64 a.t, .slice A 24 c, .slice A' 24 c'], .int .i64 (t + 1440), .bool b] (grow (redrawn w5 x) os) fun e w'' => e = .returned (.int .i64 (z' + 1440)) ∧ ∃ p : Regrown, w'' = grow (redrawn w5 p.d) p.os := fun x os => Calls.regrown_of ((pass_yes a A A' c c' b (t + 1440) _ (HL5.out.m.below (below_regrown w5 x os)) HO.out ⟨by omega, by omega⟩).mono (by rintro e w' ⟨y, rfl, hy, hb⟩; rw [hy.out.eq HD.out]; exact ⟨rfl, hb⟩))
        have q2 : ∀ v, IsT v → ∀ x os, Calls Try.prog 12 #[.agg #[.int .i64 a.f, .int .i64 a.t, .slice A 24 c, .slice A' 24 c'], .int .i64 v, .bool b] (grow (redrawn w5 x) os) fun e w'' => e = .returned (.int .i64 (a.mm b v)) ∧ ∃ p : Regrown, w'' = grow (redrawn w5 p.d) p.os := fun v hv x os => Calls.regrown_of (took_yes a A A' c c' b v _ (HL5.out.m.below (below_regrown w5 x os)) HO.out hv)
        have Q1 := Lib.hid q1; clear q1
        have Q2 := Lib.hid (q2 (t + 1440) ⟨by omega, by omega⟩)
        have Q3 := Lib.hid (q2 t HT.out); clear q2
        have hmm : (a.mm b (t + 1440) == a.mm b t) = true := by simp [Arc.mm_day]
        have hw1 : IntKind.i64.wrap (t + 1440) = t + 1440 := by rw [IntKind.wrap_i64]; omega
        have hw2 : IntKind.i64.wrap (z' + 1440) = z' + 1440 := by rw [IntKind.wrap_i64]; omega
        clear HD HA
        go_wp2_with fail
        refine wp_region_quiet_below (by kernel_rfl) (by kernel_rfl) ?_
        repeat (quiet_step (first | (go_at_call 14; with_reducible exact Q1.out _ _) | (go_at_call 12; with_reducible exact Q2.out _ _) | (go_at_call 12; with_reducible exact Q3.out _ _)))
        refine wpQuiet_nil ?_
        intro w6 hw6
        have HB6 := Lib.hid (show Below w5.heap.size w5 w6 by obtain ⟨p, rfl⟩ := hw6; exact below_regrown w5 p.d p.os)
        clear hw6 c0 c1 c2 c3 Q1 Q2 Q3
        go_wp2_with fail
        go_ret
        exact ⟨by rfl, HL5.out.bl.trans (HB6.out.mono HL5.out.bl.size)⟩

theorem hours_law_any (a : Arc) (A A' : Option Addr) (c c' : Nat) (t : Int) (b : Bool) (w : World) (hM : ArcM w a A A') :
    Calls Try.prog 7 #[.agg #[.int .i64 a.f, .int .i64 a.t, .slice A a.lo.length c, .slice A' a.hi.length c'], .int .i64 t, .bool b] w fun e w' => e = .returned (.bool true) ∧ Below w.heap.size w w' := by
  by_cases hf : a.lo.length ≤ 40 ∧ a.hi.length ≤ 40
  · by_cases h : a.ok
    · rw [h.2.2.1, h.2.2.2.1]
      exact hours_law_ok a A A' c c' t b w hM h
    · exact hours_law_bad a A A' c c' _ _ t b w hM hf h rfl rfl
  · exact hours_law_few _ _ A A' c c' _ _ t b w hf

end Go.Proofs.Ytbojonafadhciaa
